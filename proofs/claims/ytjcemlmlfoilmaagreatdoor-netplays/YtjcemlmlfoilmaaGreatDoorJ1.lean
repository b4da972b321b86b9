import Derived.Laws.Entries
import Derived.Laws.Sem
import Derived.Laws.World
import Derived.Laws.AppendOwn
import Derived.Below
import GoSem.Op.String
import Derived.Laws.Strings
set_option linter.unusedSectionVars false
set_option linter.unusedVariables false
set_option maxRecDepth 100000
set_option maxHeartbeats 8000000
namespace Go.Proofs.YtjcemlmlfoilmaaGreatDoor
theorem z9{p:Prop}(h:p):Go.RowKit.Hid p:=h
section
open Go.RowKit
abbrev zI (n:Int):Go.Value:=.int .i64 n
abbrev zB (w w':Go.World):Prop:=Below w.heap.size w w'
abbrev zA (b:Nat):Go.Addr:=⟨b,0,none⟩
abbrev zW (w:Go.World):Go.Addr:=⟨w.heap.size,0,none⟩
abbrev zV (w:Go.World):Go.Addr:=⟨w.heap.size+1,0,none⟩
abbrev z0:Go.Value:=.int .i64 0
abbrev zS:Go.Value:=.slice none 0 0
theorem zb(w:Go.World):∀v,zB w (w.alloc v):=(Below.refl _ w).alloc (Nat.le_refl _)
theorem zx{α:Type _}(a:α):∃b,b=a:=⟨a,rfl⟩
theorem zm{P F A w x w0}{Q}(h:Calls P F A w fun e w'=>e=x/\zB w w')(hb:zB w0 w)(k:∀w',Hid (zB w0 w')->Q x w'):Calls P F A w Q:=by
 refine h.mono ?_;rintro e w' ⟨rfl,a⟩;exact k w' ((hb.trans (a.mono hb.size)))
abbrev jB := @List.mem_append
abbrev jC := @List.getElem?_take_of_lt
abbrev jD := @List.mem_cons
abbrev jE := @Nat.lt_of_lt_of_le
abbrev jF := @List.getElem_mem
abbrev jG := @List.getElem?_append_right
abbrev jH := @World.cell?_alloc_lt
abbrev jJ := @List.cons_append
abbrev jK := @List.getElem?_eq_some_iff
abbrev jL := @List.pairwise_cons
abbrev jM := @List.length_map
abbrev jN := @List.length_set
abbrev jO := @List.mem_cons_of_mem
abbrev jP := @List.getElem?_eq_none
abbrev jQ := @Array.getElem?_eq_none
abbrev jR := @List.getElem?_set_self
abbrev jS := @Nat.lt_succ_iff_lt_or_eq
abbrev jT := @World.ownsRow_nil
abbrev jU := @Addr.add_lit
abbrev jV := @List.take_add_one
abbrev jW := @Nat.zero_le
abbrev jX := @UInt8.toNat_lt
abbrev jY := @List.map_cons
abbrev jZ := @Sem.run_bind
abbrev kC := @Array.toList_modify
abbrev kD := @List.map_congr_left
abbrev kF := @List.getElem?_replicate
abbrev kG := @Option.map_eq_some_iff
abbrev kH := @World.frozen?_setCell
abbrev kI := @Array.getElem?_modify
abbrev kJ := @Array.getElem?_toList
abbrev kK := @ByteArray.data_append
abbrev kL := @List.drop_take
abbrev kN := @List.mem_flatMap
abbrev kO := @Nat.ne_of_lt
abbrev qA := @List.getD_eq_getElem?_getD
abbrev qB := @List.getElem?_eq_getElem
abbrev qC := @Nat.le_refl
abbrev qD := @Below.refl
abbrev qE := @List.length_append
abbrev qF := @Or.inr
abbrev qG := @Array.getElem?_eq_some_iff
abbrev qH := @Or.inl
abbrev qJ := @World.block_lt_of_cell?
abbrev qK := @List.eq_nil_of_length_eq_zero
abbrev qL := @List.setIfInBounds_toArray
abbrev qN := @World.cell?_setCell_other
abbrev qO := @Nat.le_trans
abbrev qP := @List.mem_singleton
abbrev qQ := @List.length_take
abbrev qS := @List.getElem?_set_ne
abbrev qT := @List.getElem?_map
abbrev qU := @List.set_cons_succ
abbrev qV := @List.length_cons
abbrev qW := @List.take_of_length_le
abbrev qX := @Bool.and_eq_true
abbrev qY := @Nat.zero_add
abbrev qZ := @List.set_cons_zero
abbrev vA := @List.flatMap_append
abbrev vB := @Sem.run_pure
abbrev vC := @List.nil_append
abbrev vD := @List.filter_cons
abbrev vF := @World.frozen?_alloc_old
abbrev vJ := @List.append_assoc
abbrev vK := @Bool.or_eq_false_iff
abbrev vL := @Nat.add_zero
abbrev vM := @List.map_nil
abbrev vN := @List.drop_drop
abbrev vO := @List.not_mem_nil
abbrev vP := @List.getElem_of_mem
abbrev vQ := @List.length_filter_le
abbrev vR := @List.flatMap_cons
abbrev vS := @List.filter_append
abbrev vT := @List.mem_of_mem_take
abbrev vU := @Result.andThen_ok
abbrev vV := @List.length_singleton
abbrev vW := @List.mem_range
abbrev vY := @List.append_nil
abbrev vZ := @Nat.add_sub_cancel
abbrev xA := @List.mem_cons_self
abbrev xB := @List.drop_eq_getElem_cons
abbrev xC := @List.mem_append_left
abbrev xD := @List.take_append_drop
abbrev xE := @World.cell?_setCell_same
abbrev xH := @List.length_drop
abbrev xJ := @Bool.or_eq_true
abbrev xK := @Int.toNat_natCast
abbrev xL := @List.map_append
abbrev xM := @List.drop_of_length_le
abbrev xN := @List.map_toArray
abbrev xP := @Bool.eq_iff_iff
abbrev xQ := @List.getElem?_drop
abbrev xR := @Nat.lt_or_ge
abbrev xS := @List.getElem?_append_left
abbrev xT := @Option.getD_some
abbrev xU := @Option.map_some
abbrev xV := @List.mem_map
abbrev xW := @Nat.lt_or_eq_of_le
abbrev xX := @Bool.and_eq_false_iff
abbrev xY := @UInt8.lt_iff_toNat_lt
abbrev xZ := @ByteArray.size_append
abbrev yA := @List.mem_iff_getElem
abbrev yB := @List.take_succ_eq_append_getElem
abbrev yC := @List.find?_cons_of_pos
abbrev yD := @ByteArray.data_extract
abbrev yE := @List.ext_getElem?
abbrev yF := @List.length_pos_iff
abbrev yG := @List.getElem?_range
abbrev yH := @List.mem_filter
abbrev yI := @List.mem_append_right
abbrev yJ := @List.take_length
abbrev yM := @List.all_append
abbrev yN := @List.find?_cons_of_neg
abbrev yP := @UInt8.toNat_ofNat'
abbrev yQ := @List.drop_zero
abbrev yR := @List.mem_of_find?_eq_some
abbrev yS := @List.getLast?_eq_getElem?
abbrev yT := @Array.getElem?_eq_getElem
abbrev yU := @UInt8.toNat_inj
abbrev yV := @List.range_succ
abbrev yW := @List.length_nil
abbrev yY := @Bool.true_and
abbrev yZ := @List.mem_of_mem_eraseIdx
end
namespace Pm
def inside (t a b:List UInt8):Bool:=(!(Op.bytesLess t a||t==a))&&(b.isEmpty||Op.bytesLess t b)
def stem (t a b:List UInt8):Bool:=(inside t a b&&(t.getLast? !=some 97)) && !(t.isPrefixOf b)
def may (t a b:List UInt8):Bool:=inside t a b||t.isPrefixOf a
def isLet (c:UInt8):Bool:=decide (97≤c.toNat∧c.toNat≤122)
def isWho (n:Int):Bool:=decide (1≤n)&&decide (n≤8)
def whoOf (p:List UInt8):Int:=((p.getLast?.getD 0).toNat:Int)-97
def chk (p:List UInt8):Int:=
 if 12<p.length then 4
 else if p.length<2 then 2
 else if !(p.all isLet) then 2
 else if p.dropLast.getLast? ==some 97 then 2
 else if !(isWho (whoOf p)) then 2
 else 0
def sides (a b:List UInt8):Int:=
 if a≠[]∧chk a≠0 then chk a
 else if b≠[]∧chk b≠0 then chk b
 else if a≠[]∧b≠[]∧Op.bytesLess a b=false then 3
 else 0
def letters:List UInt8:=(List.range 26).map fun i=>UInt8.ofNat (97+i)
def ext (h:List UInt8):List (List UInt8):=letters.map fun c=>h++[c]
def exts (o:List (List UInt8)):List (List UInt8):=o.flatMap ext
def stems (o:List (List UInt8)) (a b:List UInt8):List (List UInt8):=(exts o).filter fun t=>stem t a b
def longer (o:List (List UInt8)) (a b:List UInt8):List (List UInt8):=(exts o).filter fun t=>may t a b
def cand (o:List (List UInt8)) (k j:Nat):List (List UInt8):=exts (o.take k)++(ext (o.getD k [])).take j
end Pm
namespace Bm
open Op (bytesLess)
theorem bD:∀a:List UInt8,bytesLess a a=false
 | []=>rfl
 | x::r=>by simp[bytesLess,bD r]
theorem cL:∀{a b:List UInt8},bytesLess a b=true->bytesLess b a=false
 | _,[],h=>by simp[bytesLess] at h
 | [],_::_,_=>rfl
 | x::a,y::b,h=>by
  simp only[bytesLess,xJ,decide_eq_true_eq,qX,beq_iff_eq] at h
  simp only[bytesLess,vK,decide_eq_false_iff_not,xX]
  rcases h with h | ⟨rfl,h⟩
  ·rw[xY] at h |-
   refine⟨by omega,qH ?_⟩
   rw[beq_eq_false_iff_ne]
   intro e;rw[e] at h;omega
  ·rw[xY]
   exact⟨by omega,qF (cL h)⟩
theorem bT:∀{a b:List UInt8},bytesLess a b=false->a≠b->bytesLess b a=true
 | [],[],_,h=>absurd rfl h
 | _::_,[],_,_=>rfl
 | [],_::_,h,_=>by simp[bytesLess] at h
 | x::a,y::b,h,hne=>by
  simp only[bytesLess,vK,decide_eq_false_iff_not,xX] at h
  simp only[bytesLess,xJ,decide_eq_true_eq,qX,beq_iff_eq]
  rw[xY] at h |-
  obtain⟨h1,h2⟩:=h
  by_cases e:y=x
  ·subst e
   refine qF ⟨rfl, ?_⟩
   rcases h2 with h2 | h2
   ·simp at h2
   ·exact bT h2 (by rintro rfl;exact hne rfl)
  ·refine qH ?_
   have:y.toNat≠x.toNat:=fun e2=>e (yU.1 e2)
   omega
theorem cA:∀{x y z:List UInt8},bytesLess x y=true->bytesLess y z=true->bytesLess x z=true
 | _,[],_,h,_=>by simp[bytesLess] at h
 | _,_::_,[],_,h=>by simp[bytesLess] at h
 | [],_::_,_::_,_,_=>rfl
 | a::x,b::y,c::z,h1,h2=>by
  simp only[bytesLess,xJ,decide_eq_true_eq,qX,beq_iff_eq,xY] at h1 h2 |-
  rcases h1 with h1 | ⟨rfl,h1⟩
  ·rcases h2 with h2 | ⟨rfl,h2⟩
   ·left;omega
   ·exact qH h1
  ·rcases h2 with h2 | ⟨rfl,h2⟩
   ·exact qH h2
   ·exact qF ⟨rfl,cA h1 h2⟩
theorem bytes_inj{a b:ByteArray}(h:a.toList=b.toList):a=b:=by
 rw[ByteArray.toList_eq,ByteArray.toList_eq] at h;cases a;cases b;simp only[ByteArray.mk.injEq];exact Array.toList_inj.1 h
abbrev Leaf:=ByteArray × Int × Bool
def none0:Leaf:=(ByteArray.empty,0,false)
def isL (n:Int):Bool:=decide (32≤n)&&decide (n≤126)
def leafE (x:Leaf):Int:=if Pm.chk x.1.toList≠0 then Pm.chk x.1.toList else if x.2.1≠0∧isL x.2.1=false then 1 else if x.2.1=0∧x.2.2=false then 3 else 0
def goes (a:List UInt8):List Leaf→Int
 | []=>0
 | x::l=>if leafE x≠0 then leafE x else if bytesLess a x.1.toList=false then 7 else goes x.1.toList l
def bookE (l:List Leaf):Int:=if 300<l.length then 4 else goes [] l
def isS (x:Leaf):Bool:=(x.2.1 !=0) && !x.2.2
def letter (x:Leaf):UInt8:=UInt8.ofNat x.2.1.toNat
def text (l:List Leaf):List UInt8:=(l.filter isS).map letter
def nth:List Leaf→Nat→Int→Int
 | [],_,_=> -1
 | x::l,i,r=>if isS x then(if r=0 then i else nth l (i+1) (r-1)) else nth l (i+1) r
def ahd (l:List Leaf) (p:List UInt8):Nat:=(l.takeWhile fun x=>bytesLess x.1.toList p).length
def has (l:List Leaf) (p:List UInt8):Bool:=decide (ahd l p<l.length)&&((l.getD (ahd l p) none0).1.toList==p)
def withE (l:List Leaf) (p:ByteArray):Int:=if bookE l≠0 then bookE l else Pm.chk p.toList
def leafAt (l:List Leaf) (p:ByteArray):Leaf:=if has l p.toList then l.getD (ahd l p.toList) none0 else(p,0,false)
def putE (l:List Leaf) (p:ByteArray):Int:=if has l p.toList=false∧300≤l.length then 4 else 0
def putL (l:List Leaf) (p:ByteArray) (x:Leaf):List Leaf:=l.take (ahd l p.toList)++x::l.drop (if has l p.toList then ahd l p.toList+1 else ahd l p.toList)
def clash (x:Leaf) (c:Int):Bool:=(x.2.1 !=0)&&(x.2.1 !=c)
def wrE (l:List Leaf) (p:ByteArray) (c:Int):Int:=if isL c=false then 1 else if clash (leafAt l p) c then 7 else putE l p
def wrX (l:List Leaf) (p:ByteArray) (c:Int):Leaf:=(p,c,(leafAt l p).2.2)
def stX (l:List Leaf) (p:ByteArray):Leaf:=(p,(leafAt l p).2.1,true)
def writeE (l:List Leaf) (p:ByteArray) (c:Int):Int:=if withE l p≠0 then withE l p else wrE l p c
def writeL (l:List Leaf) (p:ByteArray) (c:Int):List Leaf:=if writeE l p c=0 then putL l p (wrX l p c) else[]
def strikeE (l:List Leaf) (p:ByteArray):Int:=if withE l p≠0 then withE l p else putE l p
def strikeL (l:List Leaf) (p:ByteArray):List Leaf:=if strikeE l p=0 then putL l p (stX l p) else[]
def Rise (l:List Leaf):Prop:=l.Pairwise fun x y=>bytesLess x.1.toList y.1.toList=true
variable {p:List UInt8}{x:Leaf}{l:List Leaf}{i j:Nat}
theorem cS(h:Pm.chk p=0):2<=p.length/\p.length<=12:=by
 unfold Pm.chk at h;by_cases a:12<p.length
 ·rw[if_pos a] at h;omega
 ·rw[if_neg a] at h;by_cases b:p.length<2
  ·rw[if_pos b] at h;omega
  ·omega
theorem cG:leafE x=0↔Pm.chk x.1.toList=0/\(x.2.1=0\/isL x.2.1=true)/\(x.2.1≠0\/x.2.2=true):=by
 unfold leafE;by_cases a:Pm.chk x.1.toList=0
 ·rw[if_neg (by simpa using a)];by_cases b:x.2.1=0
  ·rw[if_neg (by intro h;exact h.1 b)];cases h3:x.2.2<;>simp[a,b]
  ·cases h3:isL x.2.1<;>simp[a,b]
 ·rw[if_pos a];simp[a]
theorem wL:∀{l:List Leaf} {a:List UInt8},goes a l=0↔(∀x ∈ l,leafE x=0)/\(∀x ∈ l,bytesLess a x.1.toList=true)/\Rise l
 | [],a=>by simp[goes,Rise]
 | x::l,a=>by
  unfold goes
  by_cases h1:leafE x=0
  ·rw[if_neg (by simpa using h1)]
   cases h2:bytesLess a x.1.toList
   ·simp[h2]
   ·rw[if_neg (by simp),wL]
    constructor
    ·rintro⟨g1,g2,g3⟩
     refine⟨?_, ?_, ?_⟩
     ·intro y hy
      rcases jD.1 hy with rfl | hy
      ·exact h1
      ·exact g1 y hy
     ·intro y hy
      rcases jD.1 hy with rfl | hy
      ·exact h2
      ·exact cA h2 (g2 y hy)
     ·exact jL.2 ⟨g2,g3⟩
    ·rintro⟨g1,g2,g3⟩
     have g4:=jL.1 g3
     exact⟨fun y hy=>g1 y (jO _ hy),g4.1,g4.2⟩
  ·rw[if_pos h1]
   constructor
   ·intro h;exact absurd h h1
   ·rintro⟨g1,_,_⟩;exact g1 x (xA ..)
theorem aU:bookE l=0↔l.length<=300/\(∀x ∈ l,leafE x=0)/\Rise l:=by
 unfold bookE
 by_cases h:300<l.length
 ·rw[if_pos h];constructor
  ·intro e;omega
  ·rintro⟨e,_⟩;omega
 ·rw[if_neg h,wL]
  constructor
  ·rintro⟨a,_,b⟩;exact⟨by omega,a,b⟩
  ·rintro⟨_,a,b⟩
   refine⟨a,fun x hx=> ?_,b⟩
   have:=(cS (cG.1 (a x hx)).1).1
   cases hx:x.1.toList with
   | nil=>rw[hx] at this;simp at this
   | cons _ _=>rfl
theorem mZ:∀{l:List Leaf} (p:List UInt8),Rise l->(∀j,j<ahd l p->bytesLess (l.getD j none0).1.toList p=true)/\(∀j,ahd l p<=j->j<l.length->bytesLess (l.getD j none0).1.toList p=false)/\ahd l p<=l.length
 | [],p,_=>by simp[ahd]
 | x::l,p,h=>by
  have hc:=jL.1 h
  obtain⟨i1,i2,i3⟩:=mZ p hc.2
  cases hx:bytesLess x.1.toList p
  ·have e:ahd (x::l) p=0:=by simp[ahd,hx]
   rw[e]
   refine⟨fun j hj=>absurd hj (by omega),fun j _ hj=> ?_,by omega⟩
   cases j with
   | zero=>exact hx
   | succ j=>
    have hj2:j<l.length:=by simpa using hj
    have:=hc.1 (l.getD j none0) (by rw[qA,qB hj2];exact jF hj2)
    show bytesLess (l.getD j none0).1.toList p=false
    cases h9:bytesLess (l.getD j none0).1.toList p
    ·rfl
    ·rw[cA this h9] at hx;cases hx
  ·have e:ahd (x::l) p=ahd l p+1:=by simp[ahd,hx]
   rw[e]
   refine⟨fun j hj=> ?_,fun j hj1 hj=> ?_,by simp;omega⟩
   ·cases j with
    | zero=>exact hx
    | succ j=>exact i1 j (by omega)
   ·cases j with
    | zero=>omega
    | succ j=>exact i2 j (by omega) (by simpa using hj)
theorem aAs(hr:Rise l)(hi:i<=l.length)(h1:∀j,j<i->bytesLess (l.getD j none0).1.toList p=true)(h2:∀j,i<=j->j<l.length->bytesLess (l.getD j none0).1.toList p=false):ahd l p=i:=by
 obtain⟨a,b,c⟩:=mZ p hr;rcases Nat.lt_trichotomy (ahd l p) i with h | h | h
 ·have:=h1 _ h;rw[b _ (qC _) (by omega)] at this;cases this
 ·exact h
 ·have:=a _ h;rw[h2 _ (qC _) (by omega)] at this;cases this
theorem nU(hr:Rise l):ahd l p<=l.length:=(mZ p hr).2.2
theorem cC(hj:j<l.length):l.getD j none0 ∈ l:=by
 rw[qA,qB hj];exact jF hj
theorem nK(h:x ∈ l):∃j,j<l.length/\l.getD j none0=x:=by
 obtain⟨j,a,e⟩:=vP h;exact⟨j,a,by rw[qA,qB a,e];rfl⟩
theorem gG(hr:Rise l)(hij:i<j)(hj:j<l.length):bytesLess (l.getD i none0).1.toList (l.getD j none0).1.toList=true:=by
 have:=List.pairwise_iff_getElem.1 hr i j (by omega) hj hij;rw[qA,qA,qB hj,qB (show i<l.length by omega)];exact this
theorem xG(hr:Rise l):has l p=true↔∃x ∈ l,x.1.toList=p:=by
 obtain⟨b,c,k⟩:=mZ p hr;unfold has;rw[qX,decide_eq_true_eq,beq_iff_eq];constructor
 ·rintro⟨d,e⟩;exact⟨_,cC d,e⟩
 ·rintro⟨x,f,rfl⟩;obtain⟨j,a,rfl⟩:=nK f;rcases Nat.lt_trichotomy j (ahd l (l.getD j none0).1.toList) with h | h | h
  ·have:=b j h;rw[bD] at this;cases this
  ·rw[<-h];exact⟨a,rfl⟩
  ·have i:=c _ (qC _) (by omega);have:=gG hr h a;rw[i] at this;cases this
theorem cX(hr:Rise l){p:ByteArray}(h:has l p.toList=true):leafAt l p ∈ l/\(leafAt l p).1=p:=by
 unfold leafAt;rw[h,if_pos rfl];unfold has at h;rw[qX,decide_eq_true_eq,beq_iff_eq] at h;exact⟨cC h.1,bytes_inj h.2⟩
theorem iV(hr:Rise l)(p:ByteArray):(leafAt l p).1=p:=by
 cases h:has l p.toList
 ·unfold leafAt;rw[h];rfl
 ·exact(cX hr h).2
theorem uniq(hr:Rise l){y:Leaf}(hx:x ∈ l)(hy:y ∈ l)(h:x.1=y.1):x=y:=by
 obtain⟨i,a,rfl⟩:=nK hx;obtain⟨j,b,rfl⟩:=nK hy;rcases Nat.lt_trichotomy i j with e | e | e
 ·have:=gG hr e b;rw[h,bD] at this;cases this
 ·rw[e]
 ·have:=gG hr e a;rw[h,bD] at this;cases this
theorem mJ(hr:Rise l)(hx:x ∈ l):leafAt l x.1=x:=by
 have h:=cX hr ((xG hr).2 ⟨x,hx,rfl⟩);exact uniq hr h.1 hx h.2
theorem rI(hr:Rise l){p:ByteArray}(h:∀x ∈ l,x.1≠p):leafAt l p=(p,0,false):=by
 unfold leafAt;rw[if_neg];intro hh;have:=cX hr hh;exact h _ this.1 this.2
theorem wR(hr:Rise l)(h:x ∈ l.take (ahd l p)):x ∈ l/\bytesLess x.1.toList p=true:=by
 obtain⟨i,a,rfl⟩:=vP h;have b:i<ahd l p:=by rw[qQ] at a;omega
 have c:i<l.length:=by rw[qQ] at a;omega
 have:=(mZ p hr).1 i b;rw[qA,qB c] at this;rw[List.getElem_take];exact⟨jF _,this⟩
theorem pJ(hr:Rise l)(h:x ∈ l.drop (if has l p then ahd l p+1 else ahd l p)):x ∈ l/\bytesLess p x.1.toList=true:=by
 obtain⟨m,g,n⟩:=mZ p hr;obtain⟨d,c⟩:∃d,(if has l p then ahd l p+1 else ahd l p)=d:=⟨_,rfl⟩;rw[c] at h;obtain⟨i,j,rfl⟩:=vP h;rw[xH] at j;rw[List.getElem_drop];refine⟨jF _, ?_⟩;have k:ahd l p<=d:=by rw[<-c];split<;>omega
 have e:l[d+i]'(by omega)=l.getD (d+i) none0:=by rw[qA,qB (show d+i<l.length by omega)];rfl
 rw[e];apply bT (g _ (by omega) (by omega));intro hk;have a:=(xG hr).2 ⟨_,cC (show d+i<l.length by omega),hk⟩;rw[a,if_pos rfl] at c;unfold has at a;rw[qX,decide_eq_true_eq,beq_iff_eq] at a;have:=gG hr (show ahd l p<d+i by omega) (by omega);rw[a.2,hk,bD] at this;cases this
theorem aAR(hr:Rise l){p:ByteArray}(hx:x.1=p):Rise (putL l p x):=by
 unfold putL Rise;rw[List.pairwise_append];refine⟨hr.sublist (List.take_sublist _ _), ?_, ?_⟩
 ·rw[jL];refine⟨fun y hy=> ?_,hr.sublist (List.drop_sublist _ _)⟩;rw[hx];exact(pJ hr hy).2
 ·intro a ha b hb;have c:=(wR hr ha).2;rcases jD.1 hb with rfl | hb
  ·rw[hx];exact c
  ·exact cA c (pJ hr hb).2
theorem put_mem(hr:Rise l){p:ByteArray}(hx:x.1=p)(y:Leaf):y ∈ putL l p x↔y=x\/(y ∈ l/\y.1≠p):=by
 unfold putL;rw[jB,jD];constructor
 ·rintro(h | rfl | h)
  ·have:=wR hr h;refine qF ⟨this.1,fun e=> ?_⟩;have a:=this.2;rw[e,bD] at a;cases a
  ·exact qH rfl
  ·have:=pJ hr h;refine qF ⟨this.1,fun e=> ?_⟩;have a:=this.2;rw[e,bD] at a;cases a
 ·rintro(rfl | ⟨h,c⟩)
  ·exact qF (qH rfl)
  ·obtain⟨g,i,k⟩:=mZ p.toList hr;obtain⟨j,d,rfl⟩:=nK h;rcases xR j (ahd l p.toList) with h1 | h1
   ·left;rw[List.mem_take_iff_getElem];exact⟨j,by omega,by rw[qA,qB d];rfl⟩
   ·right;right
    have a:(if has l p.toList then ahd l p.toList+1 else ahd l p.toList)<=j:=by
     cases hh:has l p.toList
     ·simpa using h1
     ·rw[if_pos rfl];rcases xW h1 with h3 | h3
      ·omega
      ·exfalso;unfold has at hh;rw[qX,decide_eq_true_eq,beq_iff_eq] at hh;rw[h3] at hh;exact c (bytes_inj hh.2)
    rw[List.mem_drop_iff_getElem];exact⟨j-(if has l p.toList then ahd l p.toList+1 else ahd l p.toList),by omega,by rw[qA,qB d,xT];congr 1;omega⟩
theorem aCb(hr:Rise l)(p:ByteArray)(x:Leaf):(putL l p x).length=if has l p.toList then l.length else l.length+1:=by
 have:=nU (p:=p.toList) hr;unfold putL;rw[qE,qQ,qV,xH];cases hh:has l p.toList
 ·simp;omega
 ·unfold has at hh;rw[qX,decide_eq_true_eq] at hh;simp;omega
theorem kA:∀{a b:List Leaf},Rise a->Rise b->(∀x,x ∈ a↔x ∈ b)->a=b
 | [],[],_,_,_=>rfl
 | [],y::b,_,_,h=>by have:=(h y).2 (xA ..);simp at this
 | x::a,[],_,_,h=>by have:=(h x).1 (xA ..);simp at this
 | x::a,y::b,ha,hb,h=>by
  have ca:=jL.1 ha
  have cb:=jL.1 hb
  have hxy:x=y:=by
   rcases jD.1 ((h x).1 (xA ..)) with e | e
   ·exact e
   ·rcases jD.1 ((h y).2 (xA ..)) with e2 | e2
    ·exact e2.symm
    ·have f:=cb.1 x e
     have c:=ca.1 y e2
     rw[cL f] at c;cases c
  subst hxy
  congr 1
  refine kA ca.2 cb.2 fun z=> ?_
  have d:=h z
  constructor
  ·intro hm
   rcases jD.1 (d.1 (jO _ hm)) with e | e
   ·have:=ca.1 z hm;rw[e,bD] at this;cases this
   ·exact e
  ·intro hm
   rcases jD.1 (d.2 (jO _ hm)) with e | e
   ·have:=cb.1 z hm;rw[e,bD] at this;cases this
   ·exact e
theorem tG(hr:Rise l){p:ByteArray}(hx:x.1=p)(q:ByteArray):leafAt (putL l p x) q=if q=p then x else leafAt l q:=by
 have a:=aAR hr hx;by_cases h:q=p
 ·rw[if_pos h,h,<-hx];exact mJ a ((put_mem hr hx x).2 (qH rfl)) |>.trans rfl |> fun e=>by rw[hx] at e |-;exact e
 ·rw[if_neg h];cases hh:has l q.toList
  ·have d:∀y ∈ l,y.1≠q:=by
    intro y hy e;have:=(xG hr (p:=q.toList)).2 ⟨y,hy,by rw[e]⟩;rw[hh] at this;cases this
   rw[rI hr d,rI a];intro y hy e;rcases(put_mem hr hx y).1 hy with rfl | ⟨h1,_⟩
   ·exact h (by rw[<-e,hx])
   ·exact d y h1 e
  ·have b:=cX hr hh;have:=mJ a (x:=leafAt l q) ((put_mem hr hx _).2 (qF ⟨b.1,by rw[b.2];exact h⟩));rw[b.2] at this;exact this
end Bm
namespace Bm
variable {l:List Leaf}{p:ByteArray}{c:Int}{x:Leaf}
theorem eU:withE l p=0↔bookE l=0/\Pm.chk p.toList=0:=by
 unfold withE;by_cases h:bookE l=0
 ·rw[if_neg (by simpa using h)];simp[h]
 ·rw[if_pos h];simp[h]
theorem putE_zero:putE l p=0↔has l p.toList=true\/l.length<300:=by
 unfold putE;cases h:has l p.toList
 ·by_cases a:300<=l.length
  ·rw[if_pos ⟨rfl,a⟩];simp;omega
  ·rw[if_neg (fun h=>a h.2)];simp;omega
 ·simp
theorem aBr:wrE l p c=0↔isL c=true/\clash (leafAt l p) c=false/\putE l p=0:=by
 unfold wrE;cases h:isL c
 ·simp
 ·cases h2:clash (leafAt l p) c<;>simp
theorem rD:writeE l p c=0↔withE l p=0/\wrE l p c=0:=by
 unfold writeE;by_cases h:withE l p=0
 ·rw[if_neg (by simpa using h)];simp[h]
 ·rw[if_pos h];simp[h]
theorem aAq:strikeE l p=0↔withE l p=0/\putE l p=0:=by
 unfold strikeE;by_cases h:withE l p=0
 ·rw[if_neg (by simpa using h)];simp[h]
 ·rw[if_pos h];simp[h]
theorem sB(h:isL c=true):c≠0/\32<=c/\c<=126:=by
 unfold isL at h;rw[qX,decide_eq_true_eq,decide_eq_true_eq] at h;omega
theorem aAZ(hb:bookE l=0)(hx:x.1=p)(hl:leafE x=0)(hp:putE l p=0):bookE (putL l p x)=0:=by
 obtain⟨b,c,a⟩:=aU.1 hb;refine aU.2 ⟨?_, ?_,aAR a hx⟩
 ·rw[aCb a];rcases putE_zero.1 hp with h | h
  ·rw[h];exact b
  ·split<;>omega
 ·intro y hy;rcases(put_mem a hx y).1 hy with rfl | ⟨h,_⟩
  ·exact hl
  ·exact c y h
theorem aFa(hb:bookE l=0):(leafAt l p).2.1=0\/isL (leafAt l p).2.1=true:=by
 obtain⟨c,a,b⟩:=aU.1 hb;cases h:has l p.toList
 ·unfold leafAt;rw[h];exact qH rfl
 ·exact(cG.1 (a _ (cX b h).1)).2.1
theorem mF(h:writeE l p c=0):bookE (writeL l p c)=0/\writeL l p c=putL l p (wrX l p c):=by
 obtain⟨b,d⟩:=rD.1 h;obtain⟨f,g⟩:=eU.1 b;obtain⟨a,j,i⟩:=aBr.1 d;have e:writeL l p c=putL l p (wrX l p c):=by unfold writeL;rw[if_pos h]
 rw[e];exact⟨aAZ f rfl (cG.2 ⟨g,qF a,qH (sB a).1⟩) i,rfl⟩
theorem kX(h:strikeE l p=0):bookE (strikeL l p)=0/\strikeL l p=putL l p (stX l p):=by
 obtain⟨b,c⟩:=aAq.1 h;obtain⟨a,d⟩:=eU.1 b;have e:strikeL l p=putL l p (stX l p):=by unfold strikeL;rw[if_pos h]
 rw[e];exact⟨aAZ a rfl (cG.2 ⟨d,aFa a,qF rfl⟩) c,rfl⟩
theorem aA1(a b:List Leaf):text (a++b)=text a++text b:=by unfold text;rw[vS,xL]
theorem uY(x:Leaf)(l:List Leaf):text (x::l)=if isS x then letter x::text l else text l:=by
 unfold text;rw[vD];split<;>rfl
theorem iX:∀l:List Leaf,(text l).length<=l.length:=by
 intro l;unfold text;rw[jM];exact vQ _ _
theorem aBX{x:Leaf}{B:List Leaf}(hs:isS x=true):∀(A:List Leaf) (i:Nat),nth (A++x::B) i ((text A).length:Int)=((i+A.length:Nat):Int)
 | [],i=>by simp[nth,hs,text]
 | y::A,i=>by
  rw[jJ,nth,uY]
  cases h:isS y
  ·simp only[Bool.false_eq_true,if_false]
   rw[aBX hs A (i+1)];simp;omega
  ·simp only[if_true,qV]
   rw[if_neg (by omega),show(((text A).length+1:Nat):Int)-1=((text A).length:Int) by omega,aBX hs A (i+1)]
   simp;omega
theorem rZ(h:isL x.2.1=true):((letter x).toNat:Int)=x.2.1:=by
 have:=sB h;unfold letter;rw[yP];omega
end Bm
namespace Cm
open Op (bytesLess)
section
variable {α : Type} [DecidableEq α] (lt : α → α → Bool)
def kT:Prop:=(∀a,lt a a=false)∧(∀a b c,lt a b=true→lt b c=true→lt a c=true)∧(∀a b,lt a b=false→a≠b→lt b a=true)
def Rise (l:List α):Prop:=l.Pairwise fun x y=>lt x y=true
def pos (l:List α) (x: α):Nat:=(l.takeWhile fun y=>lt y x).length
def there (l:List α) (x: α):Bool:=decide (x ∈ l)
theorem dZ{l:List α}{x: α}:there l x=true↔x ∈ l:=by unfold there;rw[decide_eq_true_eq]
def ins (l:List α) (x: α):List α :=if x ∈ l then l else l.take (pos lt l x)++x::l.drop (pos lt l x)
variable {lt}
theorem kT.asymm(h:kT lt){a b: α}(h1:lt a b=true):lt b a=false:=by
 cases h2:lt b a
 ·rfl
 ·have:=h.2.1 _ _ _ h1 h2;rw[h.1] at this;cases this
theorem aF7(l:List α)(x: α):pos lt l x<=l.length:=by
 unfold pos
 induction l with
 | nil=>simp
 | cons y l ih=>rw[List.takeWhile_cons];split<;>simp;omega
theorem cut(h:kT lt):∀{l:List α} (x: α),Rise lt l->(∀y ∈ l.take (pos lt l x),lt y x=true)/\(∀y ∈ l.drop (pos lt l x),lt y x=false)
 | [],x,_=>by simp[pos]
 | y::l,x,hr=>by
  have hc:=jL.1 hr
  obtain⟨i1,i2⟩:=cut h x hc.2
  cases hy:lt y x
  ·have e:pos lt (y::l) x=0:=by simp[pos,hy]
   rw[e]
   refine⟨by simp,fun z hz=> ?_⟩
   rw[yQ] at hz
   rcases jD.1 hz with rfl | hz
   ·exact hy
   ·cases h9:lt z x
    ·rfl
    ·rw[h.2.1 _ _ _ (hc.1 z hz) h9] at hy;cases hy
  ·have e:pos lt (y::l) x=pos lt l x+1:=by simp[pos,hy]
   rw[e,List.take_succ_cons,List.drop_succ_cons]
   refine⟨fun z hz=> ?_,i2⟩
   rcases jD.1 hz with rfl | hz
   ·exact hy
   ·exact i1 z hz
theorem mem_ins(l:List α)(x y: α):y ∈ ins lt l x↔y=x\/y ∈ l:=by
 unfold ins;by_cases h:x ∈ l
 ·rw[if_pos h];constructor
  ·exact qF
  ·rintro(rfl | c)
   ·exact h
   ·exact c
 ·rw[if_neg h,jB,jD]
  have e:y ∈ l↔y ∈ l.take (pos lt l x)\/y ∈ l.drop (pos lt l x):=by
   rw[<-jB,xD]
  rw[e];constructor
  ·rintro(a | a | a)
   ·exact qF (qH a)
   ·exact qH a
   ·exact qF (qF a)
  ·rintro(a | a | a)
   ·exact qF (qH a)
   ·exact qH a
   ·exact qF (qF a)
theorem aFy(h:kT lt){l:List α}(hr:Rise lt l)(x: α):Rise lt (ins lt l x):=by
 unfold ins;by_cases c:x ∈ l
 ·rw[if_pos c];exact hr
 ·rw[if_neg c];obtain⟨d,f⟩:=cut h x hr;have e:∀y ∈ l.drop (pos lt l x),lt x y=true:=fun y hy=>h.2.2 _ _ (f y hy) (by rintro rfl;exact c (List.mem_of_mem_drop hy))
  unfold Rise;rw[List.pairwise_append];refine⟨hr.sublist (List.take_sublist _ _),jL.2 ⟨e,hr.sublist (List.drop_sublist _ _)⟩, ?_⟩;intro a ha b hb;rcases jD.1 hb with rfl | hb
  ·exact d a ha
  ·exact h.2.1 _ _ _ (d a ha) (e b hb)
theorem aB5(l:List α)(x: α):(ins lt l x).length=if x ∈ l then l.length else l.length+1:=by
 unfold ins;by_cases h:x ∈ l
 ·rw[if_pos h,if_pos h]
 ·have:=aF7 (lt:=lt) l x;rw[if_neg h,if_neg h,qE,qV,qQ,xH];omega
theorem wD{l:List α}{x: α}(h:x ∈ l):ins lt l x=l:=by unfold ins;rw[if_pos h]
theorem kA(h:kT lt):∀{a b:List α},Rise lt a->Rise lt b->(∀x,x ∈ a↔x ∈ b)->a=b
 | [],[],_,_,_=>rfl
 | [],y::b,_,_,e=>by have:=(e y).2 (xA ..);simp at this
 | x::a,[],_,_,e=>by have:=(e x).1 (xA ..);simp at this
 | x::a,y::b,ha,hb,e=>by
  have ca:=jL.1 ha
  have cb:=jL.1 hb
  have hxy:x=y:=by
   rcases jD.1 ((e x).1 (xA ..)) with e1 | e1
   ·exact e1
   ·rcases jD.1 ((e y).2 (xA ..)) with e2 | e2
    ·exact e2.symm
    ·have f:=cb.1 x e1
     have c:=ca.1 y e2
     rw[h.asymm f] at c;cases c
  subst hxy
  congr 1
  refine kA h ca.2 cb.2 fun z=> ?_
  have d:=e z
  constructor
  ·intro hm
   rcases jD.1 (d.1 (jO _ hm)) with e1 | e1
   ·have:=ca.1 z hm;rw[e1,h.1] at this;cases this
   ·exact e1
  ·intro hm
   rcases jD.1 (d.2 (jO _ hm)) with e1 | e1
   ·have:=cb.1 z hm;rw[e1,h.1] at this;cases this
   ·exact e1
theorem aA8{l:List α}(hr:Rise lt l)(p: α ->Bool):Rise lt (l.filter p):=hr.sublist List.filter_sublist
theorem eV(h:kT lt):∀{l:List α},Rise lt l↔∀i,i+1<l.length->∀a b,l[i]? =some a->l[i+1]? =some b->lt a b=true
 | []=>by simp[Rise]
 | [x]=>by simp[Rise]
 | x::y::l=>by
  rw[Rise,jL]
  have ih:=eV h (l:=y::l)
  constructor
  ·rintro⟨h1,h2⟩ i hi a b ha hb
   cases i with
   | zero=>
    simp at ha hb
    subst ha hb
    exact h1 _ (xA ..)
   | succ i=>exact ih.1 h2 i (by simpa using hi) a b (by simpa using ha) (by simpa using hb)
  ·intro h1
   have h2:=ih.2 fun i hi a b ha hb=>h1 (i+1) (by simpa using hi) a b (by simpa using ha) (by simpa using hb)
   have hxy:=h1 0 (by simp) x y rfl rfl
   refine⟨fun z hz=> ?_,h2⟩
   rcases jD.1 hz with rfl | hz
   ·exact hxy
   ·exact h.2.1 _ _ _ hxy ((jL.1 h2).1 z hz)
end
abbrev Dt:=Int × Int
abbrev Mk:=ByteArray × Dt
def dlt (a b:Dt):Bool:=decide (a.1<b.1)||(decide (a.1=b.1)&&decide (a.2<b.2))
def mlt (a b:Mk):Bool:=bytesLess a.1.toList b.1.toList||(decide (a.1=b.1)&&dlt a.2 b.2)
theorem dH:kT dlt:=by
 refine⟨fun a=> ?_,fun a b c=> ?_,fun a b=> ?_⟩
 ·simp[dlt]
 ·simp only[dlt,xJ,decide_eq_true_eq,qX];omega
 ·intro h hne;obtain⟨d,f⟩:=a;obtain⟨g,i⟩:=b;simp only[dlt,vK,decide_eq_false_iff_not,xX,xJ,decide_eq_true_eq,qX] at h |-;have:¬(d=g/\f=i):=fun e=>hne (by rw[e.1,e.2])
  omega
theorem dB:kT mlt:=by
 refine⟨fun a=> ?_,fun a b c f d=> ?_,fun a b h hne=> ?_⟩
 ·simp[mlt,Bm.bD,dH.1]
 ·simp only[mlt,xJ,qX,decide_eq_true_eq] at f d |-;rcases f with f | ⟨e1,f⟩
  ·rcases d with d | ⟨e2,d⟩
   ·exact qH (Bm.cA f d)
   ·exact qH (by rw[<-e2];exact f)
  ·rcases d with d | ⟨e2,d⟩
   ·exact qH (by rw[e1];exact d)
   ·exact qF ⟨e1.trans e2,dH.2.1 _ _ _ f d⟩
 ·obtain⟨i,k⟩:=a;obtain⟨j,l⟩:=b;simp only[mlt,vK,xX,decide_eq_false_iff_not,xJ,qX,decide_eq_true_eq] at h |-;obtain⟨f,d⟩:=h;by_cases e:i=j
  ·subst e;refine qF ⟨rfl, ?_⟩;rcases d with d | d
   ·exact absurd rfl d
   ·exact dH.2.2 _ _ d (fun e=>hne (by rw[e]))
  ·exact qH (Bm.bT f (fun e2=>e (Bm.bytes_inj e2)))
def dotE (who n:Int):Int:=if who<1∨8<who∨n<1∨9999<n then 1 else 0
def markE (m:Mk):Int:=if Pm.chk m.1.toList≠0 then Pm.chk m.1.toList else dotE m.2.1 m.2.2
def goesM:Option Mk→List Mk→Int
 | _,[]=>0
 | a,m::l=>if markE m≠0 then markE m else if(match a with | none=>true | some x=>mlt x m)=false then 7 else goesM (some m) l
def marksE (l:List Mk):Int:=if 40<l.length then 4 else goesM none l
theorem uC:∀{l:List Mk} {a:Option Mk},goesM a l=0↔(∀m ∈ l,markE m=0)∧(∀x,a=some x→∀m ∈ l,mlt x m=true)∧Rise mlt l
 | [],a=>by simp[goesM,Rise]
 | m::l,a=>by
  unfold goesM
  by_cases h1:markE m=0
  ·rw[if_neg (by simpa using h1)]
   cases h2:(match a with | none=>true | some x=>mlt x m)
   ·rw[if_pos rfl]
    constructor
    ·intro h;exact absurd h (by decide)
    ·rintro⟨_,g2,_⟩
     cases a with
     | none=>simp at h2
     | some x=>have:=g2 x rfl m (List.mem_cons_self ..);simp only at h2;rw[h2] at this;cases this
   ·rw[if_neg (by simp),uC]
    constructor
    ·rintro⟨g1,g2,g3⟩
     have g2':=g2 m rfl
     refine⟨?_, ?_,List.pairwise_cons.2 ⟨g2',g3⟩⟩
     ·intro y hy
      rcases List.mem_cons.1 hy with rfl | hy
      ·exact h1
      ·exact g1 y hy
     ·rintro x rfl y hy
      simp only at h2
      rcases List.mem_cons.1 hy with rfl | hy
      ·exact h2
      ·exact dB.2.1 _ _ _ h2 (g2' y hy)
    ·rintro⟨g1,g2,g3⟩
     have g4:=List.pairwise_cons.1 g3
     exact⟨fun y hy=>g1 y (List.mem_cons_of_mem _ hy),fun x e y hy=>by injection e with e;subst e;exact g4.1 y hy,g4.2⟩
  ·rw[if_pos h1]
   constructor
   ·intro h;exact absurd h h1
   ·rintro⟨g1,_,_⟩;exact g1 m (List.mem_cons_self ..)
theorem aY{l:List Mk}:marksE l=0↔l.length<=40/\(∀m ∈ l,markE m=0)/\Rise mlt l:=by
 unfold marksE;by_cases h:40<l.length
 ·rw[if_pos h];constructor
  ·intro c;omega
  ·rintro⟨c,_⟩;omega
 ·rw[if_neg h,uC];constructor
  ·rintro⟨a,_,b⟩;exact⟨by omega,a,b⟩
  ·rintro⟨_,a,b⟩;exact⟨a,(fun x e=>by cases e),b⟩
end Cm
namespace Cm
def withM (l:List Mk) (m:Mk):Int:=if there l m then 0 else if 40≤l.length then 4 else 0
def cutE (l:List Mk) (m:Mk):Int:=if marksE l≠0 then marksE l else if markE m≠0 then markE m else withM l m
def cutL (l:List Mk) (m:Mk):List Mk:=if cutE l m=0 then ins mlt l m else[]
def at' (l:List Mk) (p:ByteArray):List Mk:=l.filter fun x=>decide (x.1=p)
def dotsAt (l:List Mk) (p:ByteArray):List Dt:=(at' l p).map (·.2)
def seenE (l:List Mk) (p:ByteArray):Int:=if marksE l≠0 then marksE l else Pm.chk p.toList
def dotsE (s:List Dt):Int:=match s.find? (fun d=>decide (dotE d.1 d.2≠0)) with
 | some d=>dotE d.1 d.2
 | none=>if(List.range (s.length-1)).all (fun i=>dlt (s.getD i (0,0)) (s.getD (i+1) (0,0))) then 0 else 7
def aDt (l:List Mk) (p:ByteArray) (s:List Dt):Int:=if seenE l p≠0 then seenE l p else if 40<s.length then 4 else dotsE s
def without (l:List Mk) (p:ByteArray) (s:List Dt):List Mk:=l.filter fun x=> !(decide (x.1=p)&&decide (x.2 ∈ s))
variable {l:List Mk}{p:ByteArray}{m:Mk}{s:List Dt}
theorem iL:seenE l p=0↔marksE l=0/\Pm.chk p.toList=0:=by
 unfold seenE;by_cases h:marksE l=0
 ·rw[if_neg (by simpa using h)];simp[h]
 ·rw[if_pos h];simp[h]
theorem oV:cutE l m=0↔marksE l=0/\markE m=0/\(m ∈ l\/l.length<40):=by
 unfold cutE;by_cases h:marksE l=0
 ·rw[if_neg (by simpa using h)];by_cases a:markE m=0
  ·rw[if_neg (by simpa using a)];unfold withM;by_cases b:m ∈ l
   ·rw[if_pos (dZ.2 b)];simp[h,a,b]
   ·rw[if_neg (fun e=>b (dZ.1 e))];by_cases d:40<=l.length
    ·rw[if_pos d];simp[h,a,b];omega
    ·rw[if_neg d];simp[h,a,b];omega
  ·rw[if_pos a];simp[a]
 ·rw[if_pos h];simp[h]
theorem wB(h:cutE l m=0):cutL l m=ins mlt l m/\marksE (cutL l m)=0:=by
 have e:cutL l m=ins mlt l m:=by unfold cutL;rw[if_pos h]
 obtain⟨b,c,a⟩:=oV.1 h;obtain⟨d,f,g⟩:=aY.1 b;refine⟨e, ?_⟩;rw[e];refine aY.2 ⟨?_, ?_,aFy dB g m⟩
 ·rw[aB5];rcases a with a | a
  ·rw[if_pos a];exact d
  ·split<;>omega
 ·intro y hy;rcases(mem_ins l m y).1 hy with rfl | hy
  ·exact c
  ·exact f y hy
theorem dQ:dotsE s=0↔(∀d ∈ s,dotE d.1 d.2=0)/\Rise dlt s:=by
 unfold dotsE
 cases hf:s.find? (fun d=>decide (dotE d.1 d.2≠0)) with
 | some d=>
  have f:=List.find?_some hf
  have j:=yR hf
  simp only[decide_eq_true_eq] at f
  constructor
  ·intro h;exact absurd h f
  ·rintro⟨h,_⟩;exact h d j
 | none=>
  have k:∀d ∈ s,dotE d.1 d.2=0:=by
   intro d hd
   have:=List.find?_eq_none.1 hf d hd
   simpa using this
  have e:(List.range (s.length-1)).all (fun i=>dlt (s.getD i (0,0)) (s.getD (i+1) (0,0)))=true↔Rise dlt s:=by
   rw[eV dH,List.all_eq_true]
   constructor
   ·intro h i hi a b ha hb
    have:=h i (vW.2 (by omega))
    rw[qA,qA,ha,hb] at this
    exact this
   ·intro h i hi
    have l:=vW.1 hi
    rw[qA,qA,qB (show i<s.length by omega),qB (show i+1<s.length by omega)]
    exact h i (by omega) _ _ (qB _) (qB _)
  simp only
  constructor
  ·intro h
   refine⟨k,e.1 ?_⟩
   cases h9:(List.range (s.length-1)).all (fun i=>dlt (s.getD i (0,0)) (s.getD (i+1) (0,0)))
   ·rw[h9] at h;exact absurd h (by decide)
   ·rfl
  ·rintro⟨_,h⟩;rw[e.2 h];rfl
theorem rW:aDt l p s=0↔seenE l p=0/\s.length<=40/\dotsE s=0:=by
 unfold aDt;by_cases h:seenE l p=0
 ·rw[if_neg (by simpa using h)];by_cases a:40<s.length
  ·rw[if_pos a];simp;omega
  ·rw[if_neg a];simp[h];omega
 ·rw[if_pos h];simp[h]
end Cm
namespace Cm
end Cm
end Go.Proofs.YtjcemlmlfoilmaaGreatDoor
