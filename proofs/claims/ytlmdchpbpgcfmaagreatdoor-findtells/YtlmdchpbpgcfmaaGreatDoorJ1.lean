import Derived.Below
import GoSem.Op.String
import Derived.Laws.Strings
set_option linter.unusedSectionVars false
set_option linter.unusedVariables false
set_option maxRecDepth 100000
set_option maxHeartbeats 8000000
/- The plain mathematics of places: the texts between two places, by lists of bytes. No program is named here. -/
namespace Go.Proofs.YtlmdchpbpgcfmaaGreatDoor
theorem z9 {p : Prop} (h : p) : Go.RowKit.Hid p := h
namespace Pm
def inside (t a b:List UInt8):Bool:=(!(Op.bytesLess t a||t==a))&&(b.isEmpty||Op.bytesLess t b)
def stem (t a b:List UInt8):Bool:=(inside t a b&&(t.getLast? !=some 97)) && !(t.isPrefixOf b)
def may (t a b:List UInt8):Bool:=inside t a b||t.isPrefixOf a
def isLet (c:UInt8):Bool:=decide (97≤c.toNat∧c.toNat≤122)
def isWho (n:Int):Bool:=decide (1≤n)&&decide (n≤8)
/- the author's number by the last letter -/
def whoOf (p:List UInt8):Int:=((p.getLast?.getD 0).toNat:Int)-97
/- what is wrong with a place: 0: nothing -/
def chk (p:List UInt8):Int:=
 if 12<p.length then 4
 else if p.length<2 then 2
 else if !(p.all isLet) then 2
 else if p.dropLast.getLast? ==some 97 then 2
 else if !(isWho (whoOf p)) then 2
 else 0
def sides (a b:List UInt8):Int:=
 if a≠[]∧chk a≠0 then chk a
 else if b≠[]∧chk b≠0 then chk b
 else if a≠[]∧b≠[]∧Op.bytesLess a b=false then 3
 else 0
/- the letters; one letter more behind a text; behind each of some texts -/
def letters:List UInt8:=(List.range 26).map fun i=>UInt8.ofNat (97+i)
def ext (h:List UInt8):List (List UInt8):=letters.map fun c=>h++[c]
def exts (o:List (List UInt8)):List (List UInt8):=o.flatMap ext
def stems (o:List (List UInt8)) (a b:List UInt8):List (List UInt8):=(exts o).filter fun t=>stem t a b
def longer (o:List (List UInt8)) (a b:List UInt8):List (List UInt8):=(exts o).filter fun t=>may t a b
/- what has been tried behind k whole rounds and j letters -/
def cand (o:List (List UInt8)) (k j:Nat):List (List UInt8):=exts (o.take k)++(ext (o.getD k [])).take j
end Pm
end Go.Proofs.YtlmdchpbpgcfmaaGreatDoor
/- The plain mathematics of books: leafs by place, rising. No program is named here. -/
namespace Go.Proofs.YtlmdchpbpgcfmaaGreatDoor
namespace Bm
open Op (bytesLess)
theorem less_irrefl:∀a:List UInt8,bytesLess a a=false
 | []=>rfl
 | x::r=>by simp[bytesLess,less_irrefl r]
theorem less_asymm:∀{a b:List UInt8},bytesLess a b=true→bytesLess b a=false
 | _,[],h=>by simp[bytesLess] at h
 | [],_::_,_=>rfl
 | x::a,y::b,h=>by
  simp only[bytesLess,Bool.or_eq_true,decide_eq_true_eq,Bool.and_eq_true,beq_iff_eq] at h
  simp only[bytesLess,Bool.or_eq_false_iff,decide_eq_false_iff_not,Bool.and_eq_false_iff]
  rcases h with h | ⟨rfl,h⟩
  ·rw[UInt8.lt_iff_toNat_lt] at h ⊢
   refine⟨by omega,Or.inl ?_⟩
   rw[beq_eq_false_iff_ne]
   intro e;rw[e] at h;omega
  ·rw[UInt8.lt_iff_toNat_lt]
   exact⟨by omega,Or.inr (less_asymm h)⟩
theorem less_total:∀{a b:List UInt8},bytesLess a b=false→a≠b→bytesLess b a=true
 | [],[],_,h=>absurd rfl h
 | _::_,[],_,_=>rfl
 | [],_::_,h,_=>by simp[bytesLess] at h
 | x::a,y::b,h,hne=>by
  simp only[bytesLess,Bool.or_eq_false_iff,decide_eq_false_iff_not,Bool.and_eq_false_iff] at h
  simp only[bytesLess,Bool.or_eq_true,decide_eq_true_eq,Bool.and_eq_true,beq_iff_eq]
  rw[UInt8.lt_iff_toNat_lt] at h ⊢
  obtain⟨h1,h2⟩:=h
  by_cases e:y=x
  ·subst e
   refine Or.inr ⟨rfl, ?_⟩
   rcases h2 with h2 | h2
   ·simp at h2
   ·exact less_total h2 (by rintro rfl;exact hne rfl)
  ·refine Or.inl ?_
   have:y.toNat≠x.toNat:=fun e2=>e (UInt8.toNat_inj.1 e2)
   omega
theorem less_trans:∀{x y z:List UInt8},bytesLess x y=true→bytesLess y z=true→bytesLess x z=true
 | _,[],_,h,_=>by simp[bytesLess] at h
 | _,_::_,[],_,h=>by simp[bytesLess] at h
 | [],_::_,_::_,_,_=>rfl
 | a::x,b::y,c::z,h1,h2=>by
  simp only[bytesLess,Bool.or_eq_true,decide_eq_true_eq,Bool.and_eq_true,beq_iff_eq,UInt8.lt_iff_toNat_lt] at h1 h2 ⊢
  rcases h1 with h1 | ⟨rfl,h1⟩
  ·rcases h2 with h2 | ⟨rfl,h2⟩
   ·left;omega
   ·exact Or.inl h1
  ·rcases h2 with h2 | ⟨rfl,h2⟩
   ·exact Or.inl h2
   ·exact Or.inr ⟨rfl,less_trans h1 h2⟩
theorem bytes_inj {a b:ByteArray} (h:a.toList=b.toList):a=b:=by
 rw[ByteArray.toList_eq,ByteArray.toList_eq] at h
 cases a;cases b;simp only[ByteArray.mk.injEq];exact Array.toList_inj.1 h
/- a leaf: its place, its letter (0: none), whether it is struck -/
abbrev Leaf:=ByteArray × Int × Bool
def none0:Leaf:=(ByteArray.empty,0,false)
def isL (n:Int):Bool:=decide (32≤n)&&decide (n≤126)
def leafE (x:Leaf):Int:=if Pm.chk x.1.toList≠0 then Pm.chk x.1.toList else if x.2.1≠0∧isL x.2.1=false then 1 else if x.2.1=0∧x.2.2=false then 3 else 0
def goes (a:List UInt8):List Leaf→Int
 | []=>0
 | x::l=>if leafE x≠0 then leafE x else if bytesLess a x.1.toList=false then 7 else goes x.1.toList l
def bookE (l:List Leaf):Int:=if 300<l.length then 4 else goes [] l
def isS (x:Leaf):Bool:=(x.2.1 !=0) && !x.2.2
def letter (x:Leaf):UInt8:=UInt8.ofNat x.2.1.toNat
def text (l:List Leaf):List UInt8:=(l.filter isS).map letter
/- which leaf is the one isS at an offset r, the first one having the number i; -1: there is none -/
def nth:List Leaf→Nat→Int→Int
 | [],_,_=> -1
 | x::l,i,r=>if isS x then(if r=0 then i else nth l (i+1) (r-1)) else nth l (i+1) r
def ahd (l:List Leaf) (p:List UInt8):Nat:=(l.takeWhile fun x=>bytesLess x.1.toList p).length
def has (l:List Leaf) (p:List UInt8):Bool:=decide (ahd l p<l.length)&&((l.getD (ahd l p) none0).1.toList==p)
def withE (l:List Leaf) (p:ByteArray):Int:=if bookE l≠0 then bookE l else Pm.chk p.toList
def leafAt (l:List Leaf) (p:ByteArray):Leaf:=if has l p.toList then l.getD (ahd l p.toList) none0 else(p,0,false)
def putE (l:List Leaf) (p:ByteArray):Int:=if has l p.toList=false∧300≤l.length then 4 else 0
def putL (l:List Leaf) (p:ByteArray) (x:Leaf):List Leaf:=l.take (ahd l p.toList)++x::l.drop (if has l p.toList then ahd l p.toList+1 else ahd l p.toList)
def clash (x:Leaf) (c:Int):Bool:=(x.2.1 !=0)&&(x.2.1 !=c)
def wrE (l:List Leaf) (p:ByteArray) (c:Int):Int:=if isL c=false then 1 else if clash (leafAt l p) c then 7 else putE l p
def wrX (l:List Leaf) (p:ByteArray) (c:Int):Leaf:=(p,c,(leafAt l p).2.2)
def stX (l:List Leaf) (p:ByteArray):Leaf:=(p,(leafAt l p).2.1,true)
def writeE (l:List Leaf) (p:ByteArray) (c:Int):Int:=if withE l p≠0 then withE l p else wrE l p c
def writeL (l:List Leaf) (p:ByteArray) (c:Int):List Leaf:=if writeE l p c=0 then putL l p (wrX l p c) else[]
def strikeE (l:List Leaf) (p:ByteArray):Int:=if withE l p≠0 then withE l p else putE l p
def strikeL (l:List Leaf) (p:ByteArray):List Leaf:=if strikeE l p=0 then putL l p (stX l p) else[]
def Rise (l:List Leaf):Prop:=l.Pairwise fun x y=>bytesLess x.1.toList y.1.toList=true
theorem chk_pos {p:List UInt8} (h:Pm.chk p=0):2≤p.length∧p.length≤12:=by
 unfold Pm.chk at h
 by_cases h1:12<p.length
 ·rw[if_pos h1] at h;omega
 ·rw[if_neg h1] at h
  by_cases h2:p.length<2
  ·rw[if_pos h2] at h;omega
  ·omega
theorem leafE_zero {x:Leaf}:leafE x=0↔Pm.chk x.1.toList=0∧(x.2.1=0∨isL x.2.1=true)∧(x.2.1≠0∨x.2.2=true):=by
 unfold leafE
 by_cases h1:Pm.chk x.1.toList=0
 ·rw[if_neg (by simpa using h1)]
  by_cases h2:x.2.1=0
  ·rw[if_neg (by intro h;exact h.1 h2)]
   cases h3:x.2.2<;>simp[h1,h2]
  ·cases h3:isL x.2.1<;>simp[h1,h2]
 ·rw[if_pos h1];simp[h1]
theorem goes_zero:∀{l:List Leaf} {a:List UInt8},goes a l=0↔(∀x ∈ l,leafE x=0)∧(∀x ∈ l,bytesLess a x.1.toList=true)∧Rise l
 | [],a=>by simp[goes,Rise]
 | x::l,a=>by
  unfold goes
  by_cases h1:leafE x=0
  ·rw[if_neg (by simpa using h1)]
   cases h2:bytesLess a x.1.toList
   ·simp[h2]
   ·rw[if_neg (by simp),goes_zero]
    constructor
    ·rintro⟨g1,g2,g3⟩
     refine⟨?_, ?_, ?_⟩
     ·intro y hy
      rcases List.mem_cons.1 hy with rfl | hy
      ·exact h1
      ·exact g1 y hy
     ·intro y hy
      rcases List.mem_cons.1 hy with rfl | hy
      ·exact h2
      ·exact less_trans h2 (g2 y hy)
     ·exact List.pairwise_cons.2 ⟨g2,g3⟩
    ·rintro⟨g1,g2,g3⟩
     have g4:=List.pairwise_cons.1 g3
     exact⟨fun y hy=>g1 y (List.mem_cons_of_mem _ hy),g4.1,g4.2⟩
  ·rw[if_pos h1]
   constructor
   ·intro h;exact absurd h h1
   ·rintro⟨g1,_,_⟩;exact g1 x (List.mem_cons_self ..)
theorem bookE_zero {l:List Leaf}:bookE l=0↔l.length≤300∧(∀x ∈ l,leafE x=0)∧Rise l:=by
 unfold bookE
 by_cases h:300<l.length
 ·rw[if_pos h];constructor
  ·intro h2;omega
  ·rintro⟨h2,_⟩;omega
 ·rw[if_neg h,goes_zero]
  constructor
  ·rintro⟨a,_,b⟩;exact⟨by omega,a,b⟩
  ·rintro⟨_,a,b⟩
   refine⟨a,fun x hx=> ?_,b⟩
   have:=(chk_pos (leafE_zero.1 (a x hx)).1).1
   cases hx:x.1.toList with
   | nil=>rw[hx] at this;simp at this
   | cons _ _=>rfl
/- a book that rises, cut at a place -/
theorem cut_at:∀{l:List Leaf} (p:List UInt8),Rise l→(∀j,j<ahd l p→bytesLess (l.getD j none0).1.toList p=true)∧(∀j,ahd l p≤j→j<l.length→bytesLess (l.getD j none0).1.toList p=false)∧ahd l p≤l.length
 | [],p,_=>by simp[ahd]
 | x::l,p,h=>by
  have hc:=List.pairwise_cons.1 h
  obtain⟨i1,i2,i3⟩:=cut_at p hc.2
  cases hx:bytesLess x.1.toList p
  ·have e:ahd (x::l) p=0:=by simp[ahd,hx]
   rw[e]
   refine⟨fun j hj=>absurd hj (by omega),fun j _ hj=> ?_,by omega⟩
   cases j with
   | zero=>exact hx
   | succ j=>
    have hj2:j<l.length:=by simpa using hj
    have:=hc.1 (l.getD j none0) (by rw[List.getD_eq_getElem?_getD,List.getElem?_eq_getElem hj2];exact List.getElem_mem hj2)
    show bytesLess (l.getD j none0).1.toList p=false
    cases h9:bytesLess (l.getD j none0).1.toList p
    ·rfl
    ·rw[less_trans this h9] at hx;cases hx
  ·have e:ahd (x::l) p=ahd l p+1:=by simp[ahd,hx]
   rw[e]
   refine⟨fun j hj=> ?_,fun j hj1 hj=> ?_,by simp;omega⟩
   ·cases j with
    | zero=>exact hx
    | succ j=>exact i1 j (by omega)
   ·cases j with
    | zero=>omega
    | succ j=>exact i2 j (by omega) (by simpa using hj)
theorem ahead_eq {l:List Leaf} {p:List UInt8} (hr:Rise l) {i:Nat} (hi:i≤l.length) (h1:∀j,j<i→bytesLess (l.getD j none0).1.toList p=true) (h2:∀j,i≤j→j<l.length→bytesLess (l.getD j none0).1.toList p=false):ahd l p=i:=by
 obtain⟨g1,g2,g3⟩:=cut_at p hr
 rcases Nat.lt_trichotomy (ahd l p) i with h | h | h
 ·have:=h1 _ h;rw[g2 _ (Nat.le_refl _) (by omega)] at this;cases this
 ·exact h
 ·have:=g1 _ h;rw[h2 _ (Nat.le_refl _) (by omega)] at this;cases this
theorem ahead_le {l:List Leaf} {p:List UInt8} (hr:Rise l):ahd l p≤l.length:=(cut_at p hr).2.2
theorem getD_mem {l:List Leaf} {j:Nat} (hj:j<l.length):l.getD j none0 ∈ l:=by
 rw[List.getD_eq_getElem?_getD,List.getElem?_eq_getElem hj];exact List.getElem_mem hj
theorem mem_getD {l:List Leaf} {x:Leaf} (h:x ∈ l):∃j,j<l.length∧l.getD j none0=x:=by
 obtain⟨j,hj,e⟩:=List.getElem_of_mem h
 exact⟨j,hj,by rw[List.getD_eq_getElem?_getD,List.getElem?_eq_getElem hj,e];rfl⟩
theorem rise_lt {l:List Leaf} (hr:Rise l) {i j:Nat} (hij:i<j) (hj:j<l.length):bytesLess (l.getD i none0).1.toList (l.getD j none0).1.toList=true:=by
 have:=List.pairwise_iff_getElem.1 hr i j (by omega) hj hij
 rw[List.getD_eq_getElem?_getD,List.getD_eq_getElem?_getD,List.getElem?_eq_getElem hj,List.getElem?_eq_getElem (show i<l.length by omega)]
 exact this
theorem has_iff {l:List Leaf} (hr:Rise l) {p:List UInt8}:has l p=true↔∃x ∈ l,x.1.toList=p:=by
 obtain⟨g1,g2,g3⟩:=cut_at p hr
 unfold has
 rw[Bool.and_eq_true,decide_eq_true_eq,beq_iff_eq]
 constructor
 ·rintro⟨h1,h2⟩;exact⟨_,getD_mem h1,h2⟩
 ·rintro⟨x,hx,rfl⟩
  obtain⟨j,hj,rfl⟩:=mem_getD hx
  rcases Nat.lt_trichotomy j (ahd l (l.getD j none0).1.toList) with h | h | h
  ·have:=g1 j h;rw[less_irrefl] at this;cases this
  ·rw[←h];exact⟨hj,rfl⟩
  ·have h3:=g2 _ (Nat.le_refl _) (by omega)
   have:=rise_lt hr h hj
   rw[h3] at this;cases this
theorem leafAt_has {l:List Leaf} (hr:Rise l) {p:ByteArray} (h:has l p.toList=true):leafAt l p ∈ l∧(leafAt l p).1=p:=by
 unfold leafAt
 rw[h,if_pos rfl]
 unfold has at h
 rw[Bool.and_eq_true,decide_eq_true_eq,beq_iff_eq] at h
 exact⟨getD_mem h.1,bytes_inj h.2⟩
theorem leafAt_key {l:List Leaf} (hr:Rise l) (p:ByteArray):(leafAt l p).1=p:=by
 cases h:has l p.toList
 ·unfold leafAt;rw[h];rfl
 ·exact(leafAt_has hr h).2
theorem uniq {l:List Leaf} (hr:Rise l) {x y:Leaf} (hx:x ∈ l) (hy:y ∈ l) (h:x.1=y.1):x=y:=by
 obtain⟨i,hi,rfl⟩:=mem_getD hx
 obtain⟨j,hj,rfl⟩:=mem_getD hy
 rcases Nat.lt_trichotomy i j with e | e | e
 ·have:=rise_lt hr e hj;rw[h,less_irrefl] at this;cases this
 ·rw[e]
 ·have:=rise_lt hr e hi;rw[h,less_irrefl] at this;cases this
theorem leafAt_mem {l:List Leaf} (hr:Rise l) {x:Leaf} (hx:x ∈ l):leafAt l x.1=x:=by
 have h:=leafAt_has hr ((has_iff hr).2 ⟨x,hx,rfl⟩)
 exact uniq hr h.1 hx h.2
theorem leafAt_none {l:List Leaf} (hr:Rise l) {p:ByteArray} (h:∀x ∈ l,x.1≠p):leafAt l p=(p,0,false):=by
 unfold leafAt
 rw[if_neg]
 intro hh
 have:=leafAt_has hr hh
 exact h _ this.1 this.2
/- the two parts of a book at a place -/
theorem take_less {l:List Leaf} {p:List UInt8} (hr:Rise l) {x:Leaf} (h:x ∈ l.take (ahd l p)):x ∈ l∧bytesLess x.1.toList p=true:=by
 obtain⟨i,hi,rfl⟩:=List.getElem_of_mem h
 have hi2:i<ahd l p:=by rw[List.length_take] at hi;omega
 have hi3:i<l.length:=by rw[List.length_take] at hi;omega
 have:=(cut_at p hr).1 i hi2
 rw[List.getD_eq_getElem?_getD,List.getElem?_eq_getElem hi3] at this
 rw[List.getElem_take]
 exact⟨List.getElem_mem _,this⟩
theorem drop_more {l:List Leaf} {p:List UInt8} (hr:Rise l) {x:Leaf} (h:x ∈ l.drop (if has l p then ahd l p+1 else ahd l p)):x ∈ l∧bytesLess p x.1.toList=true:=by
 obtain⟨g1,g2,g3⟩:=cut_at p hr
 obtain⟨d,hd⟩:∃d,(if has l p then ahd l p+1 else ahd l p)=d:=⟨_,rfl⟩
 rw[hd] at h
 obtain⟨i,hi,rfl⟩:=List.getElem_of_mem h
 rw[List.length_drop] at hi
 rw[List.getElem_drop]
 refine⟨List.getElem_mem _, ?_⟩
 have hd2:ahd l p≤d:=by rw[←hd];split<;>omega
 have e:l[d+i]'(by omega)=l.getD (d+i) none0:=by rw[List.getD_eq_getElem?_getD,List.getElem?_eq_getElem (show d+i<l.length by omega)];rfl
 rw[e]
 apply less_total (g2 _ (by omega) (by omega))
 intro hk
 have hh:=(has_iff hr).2 ⟨_,getD_mem (show d+i<l.length by omega),hk⟩
 rw[hh,if_pos rfl] at hd
 unfold has at hh
 rw[Bool.and_eq_true,decide_eq_true_eq,beq_iff_eq] at hh
 have:=rise_lt hr (show ahd l p<d+i by omega) (by omega)
 rw[hh.2,hk,less_irrefl] at this
 cases this
theorem put_rise {l:List Leaf} (hr:Rise l) {p:ByteArray} {x:Leaf} (hx:x.1=p):Rise (putL l p x):=by
 unfold putL Rise
 rw[List.pairwise_append]
 refine⟨hr.sublist (List.take_sublist _ _), ?_, ?_⟩
 ·rw[List.pairwise_cons]
  refine⟨fun y hy=> ?_,hr.sublist (List.drop_sublist _ _)⟩
  rw[hx];exact(drop_more hr hy).2
 ·intro a ha b hb
  have h1:=(take_less hr ha).2
  rcases List.mem_cons.1 hb with rfl | hb
  ·rw[hx];exact h1
  ·exact less_trans h1 (drop_more hr hb).2
theorem put_mem {l:List Leaf} (hr:Rise l) {p:ByteArray} {x:Leaf} (hx:x.1=p) (y:Leaf):y ∈ putL l p x↔y=x∨(y ∈ l∧y.1≠p):=by
 unfold putL
 rw[List.mem_append,List.mem_cons]
 constructor
 ·rintro(h | rfl | h)
  ·have:=take_less hr h
   refine Or.inr ⟨this.1,fun e=> ?_⟩
   have h2:=this.2;rw[e,less_irrefl] at h2;cases h2
  ·exact Or.inl rfl
  ·have:=drop_more hr h
   refine Or.inr ⟨this.1,fun e=> ?_⟩
   have h2:=this.2;rw[e,less_irrefl] at h2;cases h2
 ·rintro(rfl | ⟨h,hne⟩)
  ·exact Or.inr (Or.inl rfl)
  ·obtain⟨g1,g2,g3⟩:=cut_at p.toList hr
   obtain⟨j,hj,rfl⟩:=mem_getD h
   rcases Nat.lt_or_ge j (ahd l p.toList) with h1 | h1
   ·left
    rw[List.mem_take_iff_getElem]
    exact⟨j,by omega,by rw[List.getD_eq_getElem?_getD,List.getElem?_eq_getElem hj];rfl⟩
   ·right;right
    have h2:(if has l p.toList then ahd l p.toList+1 else ahd l p.toList)≤j:=by
     cases hh:has l p.toList
     ·simpa using h1
     ·rw[if_pos rfl]
      rcases Nat.lt_or_eq_of_le h1 with h3 | h3
      ·omega
      ·exfalso
       unfold has at hh
       rw[Bool.and_eq_true,decide_eq_true_eq,beq_iff_eq] at hh
       rw[h3] at hh
       exact hne (bytes_inj hh.2)
    rw[List.mem_drop_iff_getElem]
    exact⟨j-(if has l p.toList then ahd l p.toList+1 else ahd l p.toList),by omega,by rw[List.getD_eq_getElem?_getD,List.getElem?_eq_getElem hj,Option.getD_some];congr 1;omega⟩
theorem put_length {l:List Leaf} (hr:Rise l) (p:ByteArray) (x:Leaf):(putL l p x).length=if has l p.toList then l.length else l.length+1:=by
 have:=ahead_le (p:=p.toList) hr
 unfold putL
 rw[List.length_append,List.length_take,List.length_cons,List.length_drop]
 cases hh:has l p.toList
 ·simp;omega
 ·unfold has at hh
  rw[Bool.and_eq_true,decide_eq_true_eq] at hh
  simp;omega
/- two that rise and have the same leafs are the same -/
theorem rise_ext:∀{a b:List Leaf},Rise a→Rise b→(∀x,x ∈ a↔x ∈ b)→a=b
 | [],[],_,_,_=>rfl
 | [],y::b,_,_,h=>by have:=(h y).2 (List.mem_cons_self ..);simp at this
 | x::a,[],_,_,h=>by have:=(h x).1 (List.mem_cons_self ..);simp at this
 | x::a,y::b,ha,hb,h=>by
  have ca:=List.pairwise_cons.1 ha
  have cb:=List.pairwise_cons.1 hb
  have hxy:x=y:=by
   rcases List.mem_cons.1 ((h x).1 (List.mem_cons_self ..)) with e | e
   ·exact e
   ·rcases List.mem_cons.1 ((h y).2 (List.mem_cons_self ..)) with e2 | e2
    ·exact e2.symm
    ·have h1:=cb.1 x e
     have h2:=ca.1 y e2
     rw[less_asymm h1] at h2;cases h2
  subst hxy
  congr 1
  refine rise_ext ca.2 cb.2 fun z=> ?_
  have hz:=h z
  constructor
  ·intro hm
   rcases List.mem_cons.1 (hz.1 (List.mem_cons_of_mem _ hm)) with e | e
   ·have:=ca.1 z hm;rw[e,less_irrefl] at this;cases this
   ·exact e
  ·intro hm
   rcases List.mem_cons.1 (hz.2 (List.mem_cons_of_mem _ hm)) with e | e
   ·have:=cb.1 z hm;rw[e,less_irrefl] at this;cases this
   ·exact e
theorem leafAt_put {l:List Leaf} (hr:Rise l) {p:ByteArray} {x:Leaf} (hx:x.1=p) (q:ByteArray):leafAt (putL l p x) q=if q=p then x else leafAt l q:=by
 have hr2:=put_rise hr hx
 by_cases h:q=p
 ·rw[if_pos h,h,←hx]
  exact leafAt_mem hr2 ((put_mem hr hx x).2 (Or.inl rfl)) |>.trans rfl |> fun e=>by rw[hx] at e ⊢;exact e
 ·rw[if_neg h]
  cases hh:has l q.toList
  ·have hn:∀y ∈ l,y.1≠q:=by
    intro y hy e
    have:=(has_iff hr (p:=q.toList)).2 ⟨y,hy,by rw[e]⟩
    rw[hh] at this;cases this
   rw[leafAt_none hr hn,leafAt_none hr2]
   intro y hy e
   rcases(put_mem hr hx y).1 hy with rfl | ⟨h1,_⟩
   ·exact h (by rw[←e,hx])
   ·exact hn y h1 e
  ·have hm:=leafAt_has hr hh
   have:=leafAt_mem hr2 (x:=leafAt l q) ((put_mem hr hx _).2 (Or.inr ⟨hm.1,by rw[hm.2];exact h⟩))
   rw[hm.2] at this
   exact this
end Bm
end Go.Proofs.YtlmdchpbpgcfmaaGreatDoor
/- Books that are written and struck: what stays right, what comes to the same, where it is isS. No program is named here. -/
namespace Go.Proofs.YtlmdchpbpgcfmaaGreatDoor
namespace Bm
open Op (bytesLess)
theorem withE_zero {l:List Leaf} {p:ByteArray}:withE l p=0↔bookE l=0∧Pm.chk p.toList=0:=by
 unfold withE
 by_cases h:bookE l=0
 ·rw[if_neg (by simpa using h)];simp[h]
 ·rw[if_pos h];simp[h]
theorem putE_zero {l:List Leaf} {p:ByteArray}:putE l p=0↔has l p.toList=true∨l.length<300:=by
 unfold putE
 cases h:has l p.toList
 ·by_cases h2:300≤l.length
  ·rw[if_pos ⟨rfl,h2⟩];simp;omega
  ·rw[if_neg (fun h=>h2 h.2)];simp;omega
 ·simp
theorem wrE_zero {l:List Leaf} {p:ByteArray} {c:Int}:wrE l p c=0↔isL c=true∧clash (leafAt l p) c=false∧putE l p=0:=by
 unfold wrE
 cases h:isL c
 ·simp
 ·cases h2:clash (leafAt l p) c<;>simp
theorem writeE_zero {l:List Leaf} {p:ByteArray} {c:Int}:writeE l p c=0↔withE l p=0∧wrE l p c=0:=by
 unfold writeE
 by_cases h:withE l p=0
 ·rw[if_neg (by simpa using h)];simp[h]
 ·rw[if_pos h];simp[h]
theorem strikeE_zero {l:List Leaf} {p:ByteArray}:strikeE l p=0↔withE l p=0∧putE l p=0:=by
 unfold strikeE
 by_cases h:withE l p=0
 ·rw[if_neg (by simpa using h)];simp[h]
 ·rw[if_pos h];simp[h]
theorem isL_ne {c:Int} (h:isL c=true):c≠0∧32≤c∧c≤126:=by
 unfold isL at h;rw[Bool.and_eq_true,decide_eq_true_eq,decide_eq_true_eq] at h;omega
theorem put_book {l:List Leaf} {p:ByteArray} {x:Leaf} (hb:bookE l=0) (hx:x.1=p) (hl:leafE x=0) (hp:putE l p=0):bookE (putL l p x)=0:=by
 obtain⟨h1,h2,h3⟩:=bookE_zero.1 hb
 refine bookE_zero.2 ⟨?_, ?_,put_rise h3 hx⟩
 ·rw[put_length h3]
  rcases putE_zero.1 hp with h | h
  ·rw[h];exact h1
  ·split<;>omega
 ·intro y hy
  rcases(put_mem h3 hx y).1 hy with rfl | ⟨h,_⟩
  ·exact hl
  ·exact h2 y h
theorem leafAt_ok {l:List Leaf} {p:ByteArray} (hb:bookE l=0):(leafAt l p).2.1=0∨isL (leafAt l p).2.1=true:=by
 obtain⟨h1,h2,h3⟩:=bookE_zero.1 hb
 cases h:has l p.toList
 ·unfold leafAt;rw[h];exact Or.inl rfl
 ·exact(leafE_zero.1 (h2 _ (leafAt_has h3 h).1)).2.1
theorem write_book {l:List Leaf} {p:ByteArray} {c:Int} (h:writeE l p c=0):bookE (writeL l p c)=0∧writeL l p c=putL l p (wrX l p c):=by
 have h0:=h
 obtain⟨h1,h2⟩:=writeE_zero.1 h
 obtain⟨h3,h4⟩:=withE_zero.1 h1
 obtain⟨h5,h6,h7⟩:=wrE_zero.1 h2
 have e:writeL l p c=putL l p (wrX l p c):=by unfold writeL;rw[if_pos h0]
 rw[e]
 exact⟨put_book h3 rfl (leafE_zero.2 ⟨h4,Or.inr h5,Or.inl (isL_ne h5).1⟩) h7,rfl⟩
theorem strike_book {l:List Leaf} {p:ByteArray} (h:strikeE l p=0):bookE (strikeL l p)=0∧strikeL l p=putL l p (stX l p):=by
 have h0:=h
 obtain⟨h1,h2⟩:=strikeE_zero.1 h
 obtain⟨h3,h4⟩:=withE_zero.1 h1
 have e:strikeL l p=putL l p (stX l p):=by unfold strikeL;rw[if_pos h0]
 rw[e]
 exact⟨put_book h3 rfl (leafE_zero.2 ⟨h4,leafAt_ok h3,Or.inr rfl⟩) h2,rfl⟩
/- written here and struck there, either way round -/
/- written here and there, either way round -/
/- what is isS -/
theorem text_append (a b:List Leaf):text (a++b)=text a++text b:=by unfold text;rw[List.filter_append,List.map_append]
theorem text_cons (x:Leaf) (l:List Leaf):text (x::l)=if isS x then letter x::text l else text l:=by
 unfold text;rw[List.filter_cons];split<;>rfl
theorem text_len_le:∀l:List Leaf,(text l).length≤l.length:=by
 intro l;unfold text;rw[List.length_map];exact List.length_filter_le _ _
theorem nth_at {x:Leaf} {B:List Leaf} (hs:isS x=true):∀(A:List Leaf) (i:Nat),nth (A++x::B) i ((text A).length:Int)=((i+A.length:Nat):Int)
 | [],i=>by simp[nth,hs,text]
 | y::A,i=>by
  rw[List.cons_append,nth,text_cons]
  cases h:isS y
  ·simp only[Bool.false_eq_true,if_false]
   rw[nth_at hs A (i+1)];simp;omega
  ·simp only[if_true,List.length_cons]
   rw[if_neg (by omega),show(((text A).length+1:Nat):Int)-1=((text A).length:Int) by omega,nth_at hs A (i+1)]
   simp;omega
/- the leaf that was written is where it is sought, and isS there -/
theorem letter_nat {x:Leaf} (h:isL x.2.1=true):((letter x).toNat:Int)=x.2.1:=by
 have:=isL_ne h
 unfold letter
 rw[UInt8.toNat_ofNat']
 omega
end Bm
end Go.Proofs.YtlmdchpbpgcfmaaGreatDoor
/- The plain mathematics of lists that rise by an order of one's own; of dots and marks. No program is named here. -/
namespace Go.Proofs.YtlmdchpbpgcfmaaGreatDoor
namespace Cm
open Op (bytesLess)
section
variable {α : Type} [DecidableEq α] (lt : α → α → Bool)
/- a strict order in which any two are held against each other -/
def Strict:Prop:=(∀a,lt a a=false)∧(∀a b c,lt a b=true→lt b c=true→lt a c=true)∧(∀a b,lt a b=false→a≠b→lt b a=true)
def Rise (l:List α):Prop:=l.Pairwise fun x y=>lt x y=true
def pos (l:List α) (x: α):Nat:=(l.takeWhile fun y=>lt y x).length
def there (l:List α) (x: α):Bool:=decide (x ∈ l)
theorem there_iff {l:List α} {x: α}:there l x=true↔x ∈ l:=by unfold there;rw[decide_eq_true_eq]
def ins (l:List α) (x: α):List α :=if x ∈ l then l else l.take (pos lt l x)++x::l.drop (pos lt l x)
variable {lt}
theorem Strict.asymm (h:Strict lt) {a b: α} (h1:lt a b=true):lt b a=false:=by
 cases h2:lt b a
 ·rfl
 ·have:=h.2.1 _ _ _ h1 h2;rw[h.1] at this;cases this
theorem pos_le (l:List α) (x: α):pos lt l x≤l.length:=by
 unfold pos
 induction l with
 | nil=>simp
 | cons y l ih=>rw[List.takeWhile_cons];split<;>simp;omega
theorem cut (h:Strict lt):∀{l:List α} (x: α),Rise lt l→(∀y ∈ l.take (pos lt l x),lt y x=true)∧(∀y ∈ l.drop (pos lt l x),lt y x=false)
 | [],x,_=>by simp[pos]
 | y::l,x,hr=>by
  have hc:=List.pairwise_cons.1 hr
  obtain⟨i1,i2⟩:=cut h x hc.2
  cases hy:lt y x
  ·have e:pos lt (y::l) x=0:=by simp[pos,hy]
   rw[e]
   refine⟨by simp,fun z hz=> ?_⟩
   rw[List.drop_zero] at hz
   rcases List.mem_cons.1 hz with rfl | hz
   ·exact hy
   ·cases h9:lt z x
    ·rfl
    ·rw[h.2.1 _ _ _ (hc.1 z hz) h9] at hy;cases hy
  ·have e:pos lt (y::l) x=pos lt l x+1:=by simp[pos,hy]
   rw[e,List.take_succ_cons,List.drop_succ_cons]
   refine⟨fun z hz=> ?_,i2⟩
   rcases List.mem_cons.1 hz with rfl | hz
   ·exact hy
   ·exact i1 z hz
theorem mem_ins (l:List α) (x y: α):y ∈ ins lt l x↔y=x∨y ∈ l:=by
 unfold ins
 by_cases h:x ∈ l
 ·rw[if_pos h]
  constructor
  ·exact Or.inr
  ·rintro(rfl | h2)
   ·exact h
   ·exact h2
 ·rw[if_neg h,List.mem_append,List.mem_cons]
  have e:y ∈ l↔y ∈ l.take (pos lt l x)∨y ∈ l.drop (pos lt l x):=by
   rw[←List.mem_append,List.take_append_drop]
  rw[e]
  constructor
  ·rintro(h1 | h1 | h1)
   ·exact Or.inr (Or.inl h1)
   ·exact Or.inl h1
   ·exact Or.inr (Or.inr h1)
  ·rintro(h1 | h1 | h1)
   ·exact Or.inr (Or.inl h1)
   ·exact Or.inl h1
   ·exact Or.inr (Or.inr h1)
theorem ins_rise (h:Strict lt) {l:List α} (hr:Rise lt l) (x: α):Rise lt (ins lt l x):=by
 unfold ins
 by_cases hx:x ∈ l
 ·rw[if_pos hx];exact hr
 ·rw[if_neg hx]
  obtain⟨c1,c2⟩:=cut h x hr
  have hd:∀y ∈ l.drop (pos lt l x),lt x y=true:=fun y hy=>h.2.2 _ _ (c2 y hy) (by rintro rfl;exact hx (List.mem_of_mem_drop hy))
  unfold Rise
  rw[List.pairwise_append]
  refine⟨hr.sublist (List.take_sublist _ _),List.pairwise_cons.2 ⟨hd,hr.sublist (List.drop_sublist _ _)⟩, ?_⟩
  intro a ha b hb
  rcases List.mem_cons.1 hb with rfl | hb
  ·exact c1 a ha
  ·exact h.2.1 _ _ _ (c1 a ha) (hd b hb)
theorem ins_length (l:List α) (x: α):(ins lt l x).length=if x ∈ l then l.length else l.length+1:=by
 unfold ins
 by_cases h:x ∈ l
 ·rw[if_pos h,if_pos h]
 ·have:=pos_le (lt:=lt) l x
  rw[if_neg h,if_neg h,List.length_append,List.length_cons,List.length_take,List.length_drop];omega
theorem ins_there {l:List α} {x: α} (h:x ∈ l):ins lt l x=l:=by unfold ins;rw[if_pos h]
theorem rise_ext (h:Strict lt):∀{a b:List α},Rise lt a→Rise lt b→(∀x,x ∈ a↔x ∈ b)→a=b
 | [],[],_,_,_=>rfl
 | [],y::b,_,_,e=>by have:=(e y).2 (List.mem_cons_self ..);simp at this
 | x::a,[],_,_,e=>by have:=(e x).1 (List.mem_cons_self ..);simp at this
 | x::a,y::b,ha,hb,e=>by
  have ca:=List.pairwise_cons.1 ha
  have cb:=List.pairwise_cons.1 hb
  have hxy:x=y:=by
   rcases List.mem_cons.1 ((e x).1 (List.mem_cons_self ..)) with e1 | e1
   ·exact e1
   ·rcases List.mem_cons.1 ((e y).2 (List.mem_cons_self ..)) with e2 | e2
    ·exact e2.symm
    ·have h1:=cb.1 x e1
     have h2:=ca.1 y e2
     rw[h.asymm h1] at h2;cases h2
  subst hxy
  congr 1
  refine rise_ext h ca.2 cb.2 fun z=> ?_
  have hz:=e z
  constructor
  ·intro hm
   rcases List.mem_cons.1 (hz.1 (List.mem_cons_of_mem _ hm)) with e1 | e1
   ·have:=ca.1 z hm;rw[e1,h.1] at this;cases this
   ·exact e1
  ·intro hm
   rcases List.mem_cons.1 (hz.2 (List.mem_cons_of_mem _ hm)) with e1 | e1
   ·have:=cb.1 z hm;rw[e1,h.1] at this;cases this
   ·exact e1
theorem filter_rise {l:List α} (hr:Rise lt l) (p: α →Bool):Rise lt (l.filter p):=hr.sublist List.filter_sublist
/- the rising that a loop sees: each one above the one ahead of it -/
theorem rise_steps (h:Strict lt):∀{l:List α},Rise lt l↔∀i,i+1<l.length→∀a b,l[i]? =some a→l[i+1]? =some b→lt a b=true
 | []=>by simp[Rise]
 | [x]=>by simp[Rise]
 | x::y::l=>by
  rw[Rise,List.pairwise_cons]
  have ih:=rise_steps h (l:=y::l)
  constructor
  ·rintro⟨h1,h2⟩ i hi a b ha hb
   cases i with
   | zero=>
    simp at ha hb
    subst ha hb
    exact h1 _ (List.mem_cons_self ..)
   | succ i=>exact ih.1 h2 i (by simpa using hi) a b (by simpa using ha) (by simpa using hb)
  ·intro h1
   have h2:Rise lt (y::l):=ih.2 fun i hi a b ha hb=>h1 (i+1) (by simpa using hi) a b (by simpa using ha) (by simpa using hb)
   have hxy:lt x y=true:=h1 0 (by simp) x y rfl rfl
   refine⟨fun z hz=> ?_,h2⟩
   rcases List.mem_cons.1 hz with rfl | hz
   ·exact hxy
   ·exact h.2.1 _ _ _ hxy ((List.pairwise_cons.1 h2).1 z hz)
end
/- dots by Who, then N; marks by Place, then their dots -/
abbrev Dt:=Int × Int
abbrev Mk:=ByteArray × Dt
def dlt (a b:Dt):Bool:=decide (a.1<b.1)||(decide (a.1=b.1)&&decide (a.2<b.2))
def mlt (a b:Mk):Bool:=bytesLess a.1.toList b.1.toList||(decide (a.1=b.1)&&dlt a.2 b.2)
theorem dlt_strict:Strict dlt:=by
 refine⟨fun a=> ?_,fun a b c=> ?_,fun a b=> ?_⟩
 ·simp[dlt]
 ·simp only[dlt,Bool.or_eq_true,decide_eq_true_eq,Bool.and_eq_true];omega
 ·intro h hne
  obtain⟨a1,a2⟩:=a
  obtain⟨b1,b2⟩:=b
  simp only[dlt,Bool.or_eq_false_iff,decide_eq_false_iff_not,Bool.and_eq_false_iff,Bool.or_eq_true,decide_eq_true_eq,Bool.and_eq_true] at h ⊢
  have:¬(a1=b1∧a2=b2):=fun e=>hne (by rw[e.1,e.2])
  omega
theorem mlt_strict:Strict mlt:=by
 refine⟨fun a=> ?_,fun a b c h1 h2=> ?_,fun a b h hne=> ?_⟩
 ·simp[mlt,Bm.less_irrefl,dlt_strict.1]
 ·simp only[mlt,Bool.or_eq_true,Bool.and_eq_true,decide_eq_true_eq] at h1 h2 ⊢
  rcases h1 with h1 | ⟨e1,h1⟩
  ·rcases h2 with h2 | ⟨e2,h2⟩
   ·exact Or.inl (Bm.less_trans h1 h2)
   ·exact Or.inl (by rw[←e2];exact h1)
  ·rcases h2 with h2 | ⟨e2,h2⟩
   ·exact Or.inl (by rw[e1];exact h2)
   ·exact Or.inr ⟨e1.trans e2,dlt_strict.2.1 _ _ _ h1 h2⟩
 ·obtain⟨pa,da⟩:=a
  obtain⟨pb,db⟩:=b
  simp only[mlt,Bool.or_eq_false_iff,Bool.and_eq_false_iff,decide_eq_false_iff_not,Bool.or_eq_true,Bool.and_eq_true,decide_eq_true_eq] at h ⊢
  obtain⟨h1,h2⟩:=h
  by_cases e:pa=pb
  ·subst e
   refine Or.inr ⟨rfl, ?_⟩
   rcases h2 with h2 | h2
   ·exact absurd rfl h2
   ·exact dlt_strict.2.2 _ _ h2 (fun e=>hne (by rw[e]))
  ·exact Or.inl (Bm.less_total h1 (fun e2=>e (Bm.bytes_inj e2)))
/- faults -/
def dotE (who n:Int):Int:=if who<1∨8<who∨n<1∨9999<n then 1 else 0
def markE (m:Mk):Int:=if Pm.chk m.1.toList≠0 then Pm.chk m.1.toList else dotE m.2.1 m.2.2
def goesM:Option Mk→List Mk→Int
 | _,[]=>0
 | a,m::l=>if markE m≠0 then markE m else if(match a with | none=>true | some x=>mlt x m)=false then 7 else goesM (some m) l
def marksE (l:List Mk):Int:=if 40<l.length then 4 else goesM none l
theorem goesM_zero:∀{l:List Mk} {a:Option Mk},goesM a l=0↔(∀m ∈ l,markE m=0)∧(∀x,a=some x→∀m ∈ l,mlt x m=true)∧Rise mlt l
 | [],a=>by simp[goesM,Rise]
 | m::l,a=>by
  unfold goesM
  by_cases h1:markE m=0
  ·rw[if_neg (by simpa using h1)]
   cases h2:(match a with | none=>true | some x=>mlt x m)
   ·rw[if_pos rfl]
    constructor
    ·intro h;exact absurd h (by decide)
    ·rintro⟨_,g2,_⟩
     cases a with
     | none=>simp at h2
     | some x=>have:=g2 x rfl m (List.mem_cons_self ..);simp only at h2;rw[h2] at this;cases this
   ·rw[if_neg (by simp),goesM_zero]
    constructor
    ·rintro⟨g1,g2,g3⟩
     have g2':=g2 m rfl
     refine⟨?_, ?_,List.pairwise_cons.2 ⟨g2',g3⟩⟩
     ·intro y hy
      rcases List.mem_cons.1 hy with rfl | hy
      ·exact h1
      ·exact g1 y hy
     ·rintro x rfl y hy
      simp only at h2
      rcases List.mem_cons.1 hy with rfl | hy
      ·exact h2
      ·exact mlt_strict.2.1 _ _ _ h2 (g2' y hy)
    ·rintro⟨g1,g2,g3⟩
     have g4:=List.pairwise_cons.1 g3
     exact⟨fun y hy=>g1 y (List.mem_cons_of_mem _ hy),fun x e y hy=>by injection e with e;subst e;exact g4.1 y hy,g4.2⟩
  ·rw[if_pos h1]
   constructor
   ·intro h;exact absurd h h1
   ·rintro⟨g1,_,_⟩;exact g1 m (List.mem_cons_self ..)
theorem marksE_zero {l:List Mk}:marksE l=0↔l.length≤40∧(∀m ∈ l,markE m=0)∧Rise mlt l:=by
 unfold marksE
 by_cases h:40<l.length
 ·rw[if_pos h];constructor
  ·intro h2;omega
  ·rintro⟨h2,_⟩;omega
 ·rw[if_neg h,goesM_zero]
  constructor
  ·rintro⟨a,_,b⟩;exact⟨by omega,a,b⟩
  ·rintro⟨_,a,b⟩;exact⟨a,(fun x e=>by cases e),b⟩
end Cm
end Go.Proofs.YtlmdchpbpgcfmaaGreatDoor
/- Marks that are cut and joined: what stays, what is seen. No program is named here. -/
namespace Go.Proofs.YtlmdchpbpgcfmaaGreatDoor
namespace Cm
open Op (bytesLess)
def withM (l:List Mk) (m:Mk):Int:=if there l m then 0 else if 40≤l.length then 4 else 0
def cutE (l:List Mk) (m:Mk):Int:=if marksE l≠0 then marksE l else if markE m≠0 then markE m else withM l m
def cutL (l:List Mk) (m:Mk):List Mk:=if cutE l m=0 then ins mlt l m else[]
def seenE (l:List Mk) (p:ByteArray):Int:=if marksE l≠0 then marksE l else Pm.chk p.toList
/- dots one by one, then rising -/
def dotsE (s:List Dt):Int:=match s.find? (fun d=>decide (dotE d.1 d.2≠0)) with
 | some d=>dotE d.1 d.2
 | none=>if(List.range (s.length-1)).all (fun i=>dlt (s.getD i (0,0)) (s.getD (i+1) (0,0))) then 0 else 7
def joinE (l:List Mk) (p:ByteArray) (s:List Dt):Int:=if seenE l p≠0 then seenE l p else if 40<s.length then 4 else dotsE s
def without (l:List Mk) (p:ByteArray) (s:List Dt):List Mk:=l.filter fun x=> !(decide (x.1=p)&&decide (x.2 ∈ s))
/- the places that have a mark, each once: of a list that rises -/
theorem seenE_zero {l:List Mk} {p:ByteArray}:seenE l p=0↔marksE l=0∧Pm.chk p.toList=0:=by
 unfold seenE
 by_cases h:marksE l=0
 ·rw[if_neg (by simpa using h)];simp[h]
 ·rw[if_pos h];simp[h]
theorem cutE_zero {l:List Mk} {m:Mk}:cutE l m=0↔marksE l=0∧markE m=0∧(m ∈ l∨l.length<40):=by
 unfold cutE
 by_cases h:marksE l=0
 ·rw[if_neg (by simpa using h)]
  by_cases h2:markE m=0
  ·rw[if_neg (by simpa using h2)]
   unfold withM
   by_cases h3:m ∈ l
   ·rw[if_pos (there_iff.2 h3)];simp[h,h2,h3]
   ·rw[if_neg (fun e=>h3 (there_iff.1 e))]
    by_cases h4:40≤l.length
    ·rw[if_pos h4];simp[h,h2,h3];omega
    ·rw[if_neg h4];simp[h,h2,h3];omega
  ·rw[if_pos h2];simp[h2]
 ·rw[if_pos h];simp[h]
theorem cut_marks {l:List Mk} {m:Mk} (h:cutE l m=0):cutL l m=ins mlt l m∧marksE (cutL l m)=0:=by
 have e:cutL l m=ins mlt l m:=by unfold cutL;rw[if_pos h]
 obtain⟨h1,h2,h3⟩:=cutE_zero.1 h
 obtain⟨g1,g2,g3⟩:=marksE_zero.1 h1
 refine⟨e, ?_⟩
 rw[e]
 refine marksE_zero.2 ⟨?_, ?_,ins_rise mlt_strict g3 m⟩
 ·rw[ins_length]
  rcases h3 with h3 | h3
  ·rw[if_pos h3];exact g1
  ·split<;>omega
 ·intro y hy
  rcases(mem_ins l m y).1 hy with rfl | hy
  ·exact h2
  ·exact g2 y hy
theorem dotsE_zero {s:List Dt}:dotsE s=0↔(∀d ∈ s,dotE d.1 d.2=0)∧Rise dlt s:=by
 unfold dotsE
 cases hf:s.find? (fun d=>decide (dotE d.1 d.2≠0)) with
 | some d=>
  have h1:=List.find?_some hf
  have h2:=List.mem_of_find?_eq_some hf
  simp only[decide_eq_true_eq] at h1
  constructor
  ·intro h;exact absurd h h1
  ·rintro⟨h,_⟩;exact h d h2
 | none=>
  have h0:∀d ∈ s,dotE d.1 d.2=0:=by
   intro d hd
   have:=List.find?_eq_none.1 hf d hd
   simpa using this
  have key:(List.range (s.length-1)).all (fun i=>dlt (s.getD i (0,0)) (s.getD (i+1) (0,0)))=true↔Rise dlt s:=by
   rw[rise_steps dlt_strict,List.all_eq_true]
   constructor
   ·intro h i hi a b ha hb
    have:=h i (List.mem_range.2 (by omega))
    rw[List.getD_eq_getElem?_getD,List.getD_eq_getElem?_getD,ha,hb] at this
    exact this
   ·intro h i hi
    have hi2:=List.mem_range.1 hi
    rw[List.getD_eq_getElem?_getD,List.getD_eq_getElem?_getD,List.getElem?_eq_getElem (show i<s.length by omega),List.getElem?_eq_getElem (show i+1<s.length by omega)]
    exact h i (by omega) _ _ (List.getElem?_eq_getElem _) (List.getElem?_eq_getElem _)
  simp only
  constructor
  ·intro h
   refine⟨h0,key.1 ?_⟩
   cases h9:(List.range (s.length-1)).all (fun i=>dlt (s.getD i (0,0)) (s.getD (i+1) (0,0)))
   ·rw[h9] at h;exact absurd h (by decide)
   ·rfl
  ·rintro⟨_,h⟩;rw[key.2 h];rfl
theorem joinE_zero {l:List Mk} {p:ByteArray} {s:List Dt}:joinE l p s=0↔seenE l p=0∧s.length≤40∧dotsE s=0:=by
 unfold joinE
 by_cases h:seenE l p=0
 ·rw[if_neg (by simpa using h)]
  by_cases h2:40<s.length
  ·rw[if_pos h2];simp;omega
  ·rw[if_neg h2];simp[h];omega
 ·rw[if_pos h];simp[h]
/- joined by all that are there: none is there, and as many fewer -/
/- one cut more, joined by what was seen ahead of it: it stays, if it was not seen -/
end Cm
end Go.Proofs.YtlmdchpbpgcfmaaGreatDoor
/- Forty marks and no more, all at one place. No program is named here. -/
namespace Go.Proofs.YtlmdchpbpgcfmaaGreatDoor
namespace Cm
open Op (bytesLess)
end Cm
end Go.Proofs.YtlmdchpbpgcfmaaGreatDoor
