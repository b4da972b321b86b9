import Derived.Test.YtjcemlmlfoilmaaGreatDoorP2
import Derived.Laws.IdiomStrings
import Derived.ArgAppend
set_option linter.unusedVariables false
set_option maxRecDepth 100000
set_option maxHeartbeats 8000000
namespace Go.Proofs.YtjcemlmlfoilmaaGreatDoor
open Go.RowKit Pa Pb
open Go.Proofs.Tryz (prog)
namespace Pm
open Op (bytesLess)
theorem cA:∀{x y z:List UInt8},bytesLess x y=true->bytesLess y z=true->bytesLess x z=true
 | _,[],_,h,_=>by simp[bytesLess] at h
 | _,_::_,[],_,h=>by simp[bytesLess] at h
 | [],_::_,_::_,_,_=>rfl
 | a::x,b::y,c::z,h1,h2=>by
  simp only[bytesLess,xJ,decide_eq_true_eq,qX,beq_iff_eq,xY] at h1 h2 |-
  rcases h1 with h1 | ⟨rfl,h1⟩
  ·rcases h2 with h2 | ⟨rfl,h2⟩
   ·left;omega
   ·exact qH h1
  ·rcases h2 with h2 | ⟨rfl,h2⟩
   ·exact qH h2
   ·exact qF ⟨rfl,cA h1 h2⟩
variable {x y:List UInt8}(a:List UInt8)(c:UInt8)(b s:List UInt8)(d j:Nat)
theorem aIs{a:List UInt8}(h1:bytesLess a x=true)(h2:bytesLess y x=false):bytesLess a y=true:=by
 by_cases e:y=x
 ·rw[e];exact h1
 ·exact cA h1 (bT h2 e)
theorem aIq{b:List UInt8}(h1:bytesLess y x=false)(h2:bytesLess y b=true):bytesLess x b=true:=by
 by_cases e:y=x
 ·rw[<-e];exact h2
 ·exact cA (bT h1 e) h2
def rep (d:Nat) (c:UInt8):List UInt8:=List.replicate d c
theorem zU:∀(r:List UInt8),r.all isLet=true->bytesLess r (rep r.length 97)=false
 | [],_=>rfl
 | x::r,h=>by
  simp only[List.all_cons,qX] at h
  simp only[isLet,decide_eq_true_eq] at h
  simp only[qV,rep,List.replicate_succ,bytesLess,vK,decide_eq_false_iff_not,xX,xY]
  refine⟨?_,qF (zU r h.2)⟩
  show¬x.toNat<97
  omega
theorem tI:∀(r:List UInt8),r.all isLet=true->bytesLess (rep r.length 122) r=false
 | [],_=>rfl
 | x::r,h=>by
  simp only[List.all_cons,qX] at h
  simp only[isLet,decide_eq_true_eq] at h
  simp only[qV,rep,List.replicate_succ,bytesLess,vK,decide_eq_false_iff_not,xX,xY]
  refine⟨?_,qF (tI r h.2)⟩
  show¬122<x.toNat
  omega
theorem mG:∀k,Flat k (texts k)
 | 0=>Flat.start
 | k+1=>(mG k).exts
theorem iJ:∀k,(texts k).length=26^k
 | 0=>rfl
 | k+1=>by
  have h:∀l:List (List UInt8),(l.flatMap ext).length=26*l.length:=by
   intro l
   induction l with
   | nil=>rfl
   | cons x r ih=>rw[vR,qE,ih,nC,qV];omega
  show((texts k).flatMap ext).length=_
  rw[h,iJ k,Nat.pow_succ];omega
theorem ext_cons(t:List UInt8):ext (c::t)=(ext t).map (c:: ·):=by simp[ext]
theorem uM(l:List (List UInt8)):exts (l.map (c:: ·))=(exts l).map (c:: ·):=by
 unfold exts;rw[List.flatMap_map,List.map_flatMap];have e:=funext (ext_cons c);rw[e]
theorem pZ:∀d,texts (d+1)=letters.flatMap fun c=>(texts d).map (c:: ·)
 | 0=>by
  have h:∀l:List UInt8,l.map (fun c=>[c])=l.flatMap fun c=>[[c]]:=by
   intro l
   induction l with
   | nil=>rfl
   | cons x r ih=>rw[jY,vR,ih];rfl
  show exts [[]]=_
  have e:exts [[]]=letters.map fun c=>[c]:=by simp[exts,ext]
  rw[e,h];rfl
 | d+1=>by
  have a:texts (d+2)=exts (letters.flatMap fun c=>(texts d).map (c:: ·)):=by rw[<-pZ d];rfl
  have b:∀l:List UInt8,exts (l.flatMap fun c=>(texts d).map (c:: ·))=l.flatMap fun c=>(texts (d+1)).map (c:: ·):=by
   intro l
   induction l with
   | nil=>rfl
   | cons x r ih=>
    have f:∀u v,exts (u++v)=exts u++exts v:=fun u v=>by simp[exts]
    rw[vR,vR,f,ih,uM];rfl
  rw[a,b]
def run (a b s:List UInt8) (d:Nat):List (List UInt8):=((texts d).map (s ++ ·)).filter fun t=>stem t a b
theorem nG:run a b s 0=if stem s a b then[s] else[]:=by
 simp only[run,texts,jY,vM,vY,vD,List.filter_nil]
theorem aGG:run a b s (d+1)=letters.flatMap fun c=>run a b (s++[c]) d:=by
 unfold run;rw[pZ,List.map_flatMap,List.filter_flatMap];congr 1;funext c;rw[List.map_map];congr 2;funext t;simp
theorem aHA(m:Nat):run a b [] m=lev a b m:=by simp[run,lev]
theorem zQ:(run a b s d).length<=26^d:=by
 unfold run;refine qO (vQ _ _) ?_;rw[jM,iJ];exact qC _
def mayN (a b s:List UInt8) (d:Nat):Bool:=
 (!(bytesLess (s++rep d 122) a||(s++rep d 122)==a))&&(b.isEmpty||bytesLess (s++rep d 97) b)
theorem aF1{a b s:List UInt8}{d:Nat}(h:mayN a b s d=false):run a b s d=[]:=by
 unfold run;rw[List.filter_eq_nil_iff];intro t ht hst;obtain⟨r,l,rfl⟩:=xV.1 ht;obtain⟨j,f⟩:=mG d r l;simp only[stem,inside,qX,Bool.not_eq_true',vK,beq_eq_false_iff_ne] at hst;obtain⟨⟨⟨⟨m,n⟩,k⟩,_⟩,_⟩:=hst;have g:bytesLess (s++r) (s++rep d 97)=false:=by rw[lW,<-j];exact zU r f
 have e:bytesLess (s++rep d 122) (s++r)=false:=by rw[lW,<-j];exact tI r f
 simp only[mayN,xX,Bool.not_eq_false',xJ,beq_iff_eq,vK] at h;rcases h with h | ⟨h4,h5⟩
 ·have c:=aIs (bT m n) e;rcases h with h | h
  ·rw[cL h] at c;cases c
  ·rw[h,bD] at c;cases c
 ·rw[h4] at k;have o:bytesLess (s++r) b=true:=by simpa using k
  have:=aIq g o;rw[this] at h5;cases h5
def aFv (a b s:List UInt8) (d:Nat):Bool:=
 (!(bytesLess (s++rep d 97) a||(s++rep d 97)==a))&&(b.isEmpty||(bytesLess (s++rep d 122) b && !(s.isPrefixOf b)))
theorem aCv:((texts (d+1)).filter fun r=>r.getLast? !=some 97).length=25*26^d:=by
 have a:∀s:List UInt8,((ext s).filter fun r=>r.getLast? !=some 97).length=25:=by
  intro s
  unfold ext
  rw[List.filter_map,jM]
  have e:(fun r:List UInt8=>r.getLast? !=some 97) ∘ (fun c=>s++[c])=fun c:UInt8=>c !=97:=by
   funext c
   rw[xP]
   simp[Function.comp,bne_iff_ne]
  rw[e]
  decide +kernel
 have h:∀l:List (List UInt8),((exts l).filter fun r=>r.getLast? !=some 97).length=25*l.length:=by
  intro l
  induction l with
  | nil=>rfl
  | cons s l ih=>
   have e:exts (s::l)=ext s++exts l:=by simp[exts]
   rw[e,vS,qE,a,ih,qV];omega
 show((exts (texts d)).filter fun r=>r.getLast? !=some 97).length=_
 rw[h,iJ]
theorem aFw{a b s:List UInt8}{d:Nat}(h:aFv a b s (d+1)=true):(run a b s (d+1)).length=25*26^d:=by
 rw[<-aCv d]
 unfold run
 rw[List.filter_map,jM]
 congr 1
 refine List.filter_congr ?_
 intro r hr
 obtain⟨g,j⟩:=mG (d+1) r hr
 have k:r≠[]:=by intro e;rw[e] at g;simp at g
 have l:bytesLess (s++r) (s++rep (d+1) 97)=false:=by rw[lW,<-g];exact zU r j
 have i:bytesLess (s++rep (d+1) 122) (s++r)=false:=by rw[lW,<-g];exact tI r j
 simp only[aFv,qX,Bool.not_eq_true',vK,beq_eq_false_iff_ne,xJ] at h
 obtain⟨⟨n,o⟩,c⟩:=h
 have f:=aIs (bT n o) l
 have p:inside (s++r) a b=true:=by
  simp only[inside,qX,Bool.not_eq_true',vK,beq_eq_false_iff_ne,xJ]
  refine⟨⟨cL f, ?_⟩, ?_⟩
  ·intro e;rw[e,bD] at f;cases f
  ·rcases c with c | c
   ·exact qH c
   ·exact qF (aIq i c.1)
 have t:(s++r).isPrefixOf b=false:=by
  rw[Bool.eq_false_iff]
  intro hp
  rw[List.isPrefixOf_iff_prefix] at hp
  rcases c with c | c
  ·have v:b=[]:=by simpa using c
   rw[v] at hp
   have:=List.prefix_nil.1 hp
   simp at this;exact k this.2
  ·have m:=List.isPrefixOf_iff_prefix.2 (List.IsPrefix.trans (List.prefix_append s r) hp)
   rw[m] at c;simp at c
 have z:(s++r).getLast? =r.getLast? :=by
  cases r with
  | nil=>exact absurd rfl k
  | cons x q=>
   rw[List.getLast?_append]
   cases h:(x::q).getLast? with
   | none=>simp at h
   | some y=>rfl
 show stem (s++r) a b=_
 simp only[stem,p,t,z]
 simp
def upto (a b s:List UInt8) (d j:Nat):Nat:=((letters.take j).flatMap fun c=>run a b (s++[c]) d).length
theorem wC:upto a b s d 0=0:=by simp[upto]
theorem tA:upto a b s d 26=(run a b s (d+1)).length:=by
 unfold upto;rw[aGG,qW (by rw[tM];exact qC _)]
theorem aBa(hj:j<26):letters[j]? =some (UInt8.ofNat (97+j)):=by simp[letters,hj]
theorem uR(hj:j<26):upto a b s d (j+1)=upto a b s d j+(run a b (s++[UInt8.ofNat (97+j)]) d).length:=by
 unfold upto;rw[jV,aBa j hj,vA,qE];simp
theorem aFd(hj:j<=26):upto a b s d j<=(run a b s (d+1)).length:=by
 rw[<-tA];unfold upto
 have e:letters.take 26=letters.take j++(letters.take 26).drop j:=by
  have:=(xD j (letters.take 26)).symm;rwa [List.take_take,Nat.min_eq_left hj] at this
 rw[e,vA,qE];omega
theorem zqa (a b s:List UInt8) (d j k:Nat) (hj:j<26) (h1:upto a b s d j<=k) (h2:k<upto a b s d (j+1)):
  (run a b s (d+1))[k]? =(run a b (s++[UInt8.ofNat (97+j)]) d)[k-upto a b s d j]? :=by
 have e:letters=letters.take j++(UInt8.ofNat (97+j)::letters.drop (j+1)):=by
  have c:j<letters.length:=by rw[tM];exact hj
  have f:letters[j]=UInt8.ofNat (97+j):=by
   have:=aBa j hj;rw[qB c] at this;exact Option.some.inj this
  rw[<-f,<-xB c,xD]
 rw[uR _ _ _ _ _ hj] at h2;rw[aGG];conv=>lhs;rw[e]
 rw[vA,vR];rw[jG h1,xS]
 ·rfl
 ·show k-upto a b s d j<_
  omega
end Pm
namespace Qa
theorem mU(s t:ByteArray)(w:World)(hs:s.size<=maxLen)(ht:t.size<=maxLen):
  Calls prog 172 #[.string s,.string t] w fun e w'=>e=.returned (.bool (s.toList.isPrefixOf t.toList))/\w'=w:=by
 unfold maxLen at ht hs;go_in;go_wp2
 all_goals
  go_ret;refine⟨aW ?_,rfl⟩;first | exact aFs t s (by assumption) | exact aF8 t s (by assumption)
def fit (s a b:List UInt8):Bool:=(!(Op.bytesLess s a||s==a))&&(b.isEmpty||(Op.bytesLess s b && !(s.isPrefixOf b)))
theorem aFP(s a b:List UInt8)(h:s≠[]):Pm.stem s a b=(fit s a b&&(s.getLast? !=some 97)):=by
 unfold Pm.stem Pm.inside fit;cases hb:b.isEmpty
 ·cases h1:(!(Op.bytesLess s a||s==a))<;>cases h2:Op.bytesLess s b<;>cases c:s.isPrefixOf b<;>cases h4:(s.getLast? !=some 97)<;>rfl
 ·have:b=[]:=by simpa using hb
  subst this;have c:s.isPrefixOf []=false:=by cases s;exact absurd rfl h;rfl
  rw[c];cases h1:(!(Op.bytesLess s a||s==a))<;>cases h4:(s.getLast? !=some 97)<;>rfl
theorem tC(s a b:ByteArray)(w:World)(hs:s.size<=maxLen)(hb:b.size<=maxLen):
  Calls prog 171 #[.string s,.string a,.string b] w fun e w'=>e=.returned (.bool (fit s.toList a.toList b.toList))/\w'=w:=by
 cases h1:Op.bytesLess s.toList a.toList<;>cases h2:(s.toList==a.toList)<;>cases h3:b.toList.isEmpty<;>cases h4:Op.bytesLess s.toList b.toList<;>cases h5:s.toList.isPrefixOf b.toList
 all_goals
  have c:=z9 h5;clear h5;go_in;go_wp2_with (go_at_call 172;refine(mU _ _ _ hs hb).mono ?_;rintro e w' ⟨rfl,d⟩;subst w';rw[c.out]);go_ret;exact⟨aW (by unfold fit;rw[h1,h2,h3,h4,c.out]<;>rfl),rfl⟩
theorem gP(x:ByteArray)(c:UInt8):(x++(⟨#[c]⟩:ByteArray)).toList=x.toList++[c]:=by
 rw[ByteArray.toList_eq,ByteArray.toList_eq];show(x++(⟨#[c]⟩:ByteArray)).data.toList=_
 rw[kK];simp
theorem nE(d:Nat)(c:UInt8):Pm.rep (d+1) c=Pm.rep d c++[c]:=by
 unfold Pm.rep;rw[List.replicate_succ']
theorem nN(s a b:ByteArray)(d:Nat)(n:Int)(w:World)(hn:n=s.size+d)(h20:s.size+d<=20):
  Calls prog 170 #[.string s,.int .i64 n,.string a,.string b] w fun e w'=>e=.returned (.bool (Pm.mayN a.toList b.toList s.toList d))/\w'=w:=by
 have q:=z9 hn;have D:0<=n:=by omega
 have A:n<=20:=by omega
 clear hn;go_in;go_wp2
 go_loop [9,10] (fun lo hi=>∃(j:Nat) (L H:ByteArray),j<=d/\lo=.string L/\hi=.string H/\L.size=s.size+j/\H.size=s.size+j/\Hid (L.toList=s.toList++Pm.rep j 97)/\Hid (H.toList=s.toList++Pm.rep j 122))
  (fun lo _=>20-(match lo with | .string L=>L.size | _=>0))
 case atStart=>exact⟨0,s,s,by omega,rfl,rfl,rfl,rfl,by unfold Hid Pm.rep;simp,by unfold Hid Pm.rep;simp⟩
 case round=>
  obtain⟨j,L,H,I,rfl,rfl,o,p,r,t⟩:=hrel;have E:L.size<=20:=by omega
  have F:H.size<=20:=by omega
  by_cases G:j<d
  ·have B:(L.size:Int)<n:=by have:=q.out;omega
   have h:=z9 o;have v:=z9 p;have i:(L++(⟨#[97]⟩:ByteArray)).size=L.size+1:=by rw[xZ];rfl
   have k:(H++(⟨#[122]⟩:ByteArray)).size=H.size+1:=by rw[xZ];rfl
   have l:=z9 i;have y:=z9 k;clear o p i k;go_wp2;go_round
   case rel=>exact⟨j+1,_,_,by omega,rfl,rfl,by rw[l.out,h.out];omega,by rw[y.out,v.out];omega,by unfold Hid;rw[gP,r.out,nE,vJ],by unfold Hid;rw[gP,t.out,nE,vJ]⟩
   case measure=>
    have z:=h.out;show 20-(L++(⟨#[97]⟩:ByteArray)).size<20-L.size
    rw[l.out];omega
  ·have m:j=d:=by omega
   have B:¬(L.size:Int)<n:=by have:=q.out;omega
   have C:Hid (Pm.mayN a.toList b.toList s.toList d=((!(Op.bytesLess H.toList a.toList||H.toList==a.toList))&&(b.toList.isEmpty||Op.bytesLess L.toList b.toList))):=by
    unfold Hid Pm.mayN;rw[r.out,t.out,m]
   clear o p m;cases h1:Op.bytesLess H.toList a.toList<;>cases z:(H.toList==a.toList)<;>cases h3:b.toList.isEmpty
   all_goals
    go_wp2;go_ret;exact⟨aW (by rw[C.out,h1,z,h3]<;>rfl),rfl⟩
end Qa
namespace Qb
theorem uB:(prog.info? 5).map (fun i=>(i.zero,i.size,i.bytes))=some (some (.int .u8 0),1,1):=by kernel_rfl
def bc (l:List UInt8):List Value:=l.map fun x=>Value.int .u8 (x.toNat:Int)
theorem iF(l:List UInt8):(bc l).length=l.length:=by simp[bc]
variable {l:List UInt8}{ops:Array Oper}{rest:List Oper}{o:Oper}{a:Act}{Q:Exit->Act->World->Prop}(w:World)(s:ByteArray)(A:Obj)(C:Nat)(x:Value)
theorem pS{j:Nat}{u:Value}(h:(bc l)[j]? =some u):∃hj:j<l.length,u=.int .u8 (l[j].toNat:Int):=by
 simp only[bc,qT,kG] at h;obtain⟨x,a,rfl⟩:=h;obtain⟨hj,rfl⟩:=jK.1 a;exact⟨hj,rfl⟩
def Reads (v:Value) (T:ByteArray) (w:World):Prop:=
 ∀w2,Below w.heap.size w w2→(convert 86 9 v).run Tryz.prog w2=.ok (.string T) w2
theorem aAC{g cap:Nat}{w:World}(hg:g<w.heap.size)(hc:∀j (hj:j<l.length),w.cell? ⟨g,j,none⟩=some (.int .u8 (l[j].toNat:Int))):
  Reads (.slice (some ⟨g,0,none⟩) l.length cap) ⟨l.toArray⟩ w:=by
 intro w2 hb;refine run_convert_bytes_back (P:=prog) w2 86 9 5 (zA g) cap l Tryz.underlying86 Tryz.underlying5 Tryz.underlying9 ?_;intro j hj
 have a:((zA g):Addr).add j=⟨g,j,none⟩:=by
  unfold Addr.add;by_cases h:j=0<;>simp[h]
 rw[a,hb.cell (p:=⟨g,j,none⟩) hg];exact hc j hj
theorem aAJ(hgd:o.guard=none)(sO xO:Operand)(ho:o.op=.call { callee:=.builtin .append,args:=#[sO,xO],argTypes:=#[86,86] })(B g0 h0 C:Nat)(s:List UInt8)(c:UInt8)(hs:a.eval sO=.slice (some ⟨g0,0,none⟩) s.length C)(hx:a.eval xO=.slice (some ⟨h0,0,none⟩) 1 1)(hs1:s.length<=1000)(hB:B<=g0)(hg0:g0<w.heap.size)(hh0:h0≠g0)(hcell:∀j (hj:j<s.length),w.cell? ⟨g0,j,none⟩=some (.int .u8 (s[j].toNat:Int)))(hspare:s.length+1<=C->(w.cell? ⟨g0,s.length,none⟩).isSome=true/\w.frozen? ⟨g0,s.length,none⟩=false)(hnew:w.cell? ⟨h0,0,none⟩=some (.int .u8 (c.toNat:Int)))(T:ByteArray)(hT:T=⟨(s++[c]).toArray⟩)(h:∀g cap w',Below B w w'->Reads (.slice (some ⟨g,0,none⟩) (s.length+1) cap) T w'->wpList prog ops Q rest (a.put o.dst (.slice (some ⟨g,0,none⟩) (s.length+1) cap)) w'):
  wpList prog ops Q (o::rest) a w:=by
 subst hT;obtain⟨A,D,q,r,t⟩:=info_parts uB
 have i:∀j u,(bc [c])[j]? =some u->w.cell? (((zA h0):Addr).add j)=some u:=by
  intro j u hu;obtain⟨hj,rfl⟩:=pS hu;have b:j=0:=by simpa using hj
  subst b;simpa[Addr.add] using hnew
 refine wpList_append_arg w hgd sO xO 86 ho 5 A (.int .u8 0) 1 1 Tryz.underlying86 D q r t rfl (by decide) g0 0 s.length C (bc s) hs (by rw[iF];omega) ?_ (zA h0) 1 1 (bc [c]) hx rfl i ?_ ?_ (by unfold maxLen;omega) (by omega) ?_ ?_
 ·intro j u hu;obtain⟨hj,rfl⟩:=pS hu;rw[qY];exact hcell j hj
 ·intro u hu;simp[bc] at hu;subst hu;rfl
 ·intro hr j hj;have b:j=0:=by rw[iF] at hj;simpa using hj
  subst b;simp only[qY,Nat.mul_one,vL];exact hspare hr
 ·intro hr;refine h g0 C _ ?_ ?_
  ·have e:w.setCells g0 (0+s.length*1) (bc [c])=w.setCell ⟨g0,0+s.length*1,none⟩ (.int .u8 (c.toNat:Int)):=rfl;rw[e];exact(qD B w).setCell (p:=⟨g0,0+s.length*1,none⟩) hB _
  ·have d:=aAC (g:=g0) (cap:=C) (l:=s++[c]) (w:=w.setCells g0 (0+s.length*1) (bc [c])) ?_ ?_
   ·simpa using d
   ·have e:w.setCells g0 (0+s.length*1) (bc [c])=w.setCell ⟨g0,0+s.length*1,none⟩ (.int .u8 (c.toNat:Int)):=rfl;rw[e];simpa using hg0
   ·intro j hj;rw[qY,Nat.mul_one];by_cases f:j<s.length
    ·rw[World.cell?_setCells_out g0 (bc [c]) s.length w ⟨g0,j,none⟩ (fun _ _=>qH f),hcell j f,List.getElem_append_left f]
    ·have y:j=s.length:=by simp at hj;omega
     subst y
     have:=World.cell?_setCells_in g0 (bc [c]) s.length w (fun k hk=>by
      have z:k=0:=by rw[iF] at hk;simpa using hk
      subst z;exact(hspare hr).1) 0 (by simp[bc])
     rw[vL] at this;rw[this];simp[bc]
 ·intro hg v' w' hown hgr;rcases hown.2 with⟨_,h0'⟩ | ⟨g,cap,cur,rfl,hbg,hgg,_⟩
  ·omega
  ·refine h g cap w' ⟨hgr.os,hgr.tape,hgr.output,hgr.size,fun k hk=>hgr.block k (by omega) (by simp)⟩ ?_
   have n:g<w'.heap.size:=by
    rcases xR g w'.heap.size with h2 | h2
    ·exact h2
    ·rw[jQ h2] at hgg;cases hgg
   have d:=aAC (g:=g) (cap:=cap) (l:=s++[c]) (w:=w') n ?_
   ·simpa using d
   ·intro j hj
    have m:=hown.cells (g:=g) rfl j (.int .u8 ((s++[c])[j].toNat:Int)) (by
     have e:bc s++bc [c]=bc (s++[c]):=by simp[bc]
     rw[e,bc,qT,qB hj];rfl)
    have E:((zA g):Addr).add j=⟨g,j,none⟩:=by
     unfold Addr.add;by_cases h:j=0<;>simp[h]
    rw[E] at m;exact m
theorem aEH(f:Nat × Nat)(j:Nat)(hj:j<s.toList.length):
  (((w.alloc (.cells (bytesRow s C) 5 f)).alloc (.cells #[x] 5)).drew).cell? ⟨w.heap.size,j,none⟩=some (.int .u8 ((s.toList[j]).toNat:Int)):=by
 have e:(((w.alloc (.cells (bytesRow s C) 5 f)).alloc (.cells #[x] 5)).drew).cell? ⟨w.heap.size,j,none⟩=(w.alloc (.cells (bytesRow s C) 5 f)).cell? ⟨w.heap.size,j,none⟩:=by
  rw[World.cell?_drew];exact jH _ _ ⟨w.heap.size,j,none⟩ (by simp)
 rw[e];have b:(w.alloc (.cells (bytesRow s C) 5 f)).heap[w.heap.size]? =some (.cells (bytesRow s C) 5 f):=heap_alloc_new w _;have a:j<s.data.size:=by rw[(aJ s)] at hj;exact hj
 simp only[World.cell?,b];simp only[bytesRow,Array.getElem?_append,Array.size_map,ByteArray.toList_eq,Array.getElem_toList];rw[if_pos a,Array.getElem?_map,yT a];rfl
theorem aCO(hr:s.toList.length+1<=C):
  ((((w.alloc (.cells (bytesRow s C) 5 ((bytesRow s C).size,(bytesRow s C).size+1))).alloc (.cells #[x] 5)).drew).cell? ⟨w.heap.size,s.toList.length,none⟩).isSome=true/\
  (((w.alloc (.cells (bytesRow s C) 5 ((bytesRow s C).size,(bytesRow s C).size+1))).alloc (.cells #[x] 5)).drew).frozen? ⟨w.heap.size,s.toList.length,none⟩=false:=by
 have c:=aJ s
 have b:(bytesRow s C).size=C:=by
  have:s.data.size=s.size:=rfl;simp[bytesRow,this];omega
 constructor
 ·rw[World.cell?_drew,jH _ _ ⟨w.heap.size,s.toList.length,none⟩ (by simp)];have a:(w.alloc (.cells (bytesRow s C) 5 ((bytesRow s C).size,(bytesRow s C).size+1))).heap[w.heap.size]? =some (.cells (bytesRow s C) 5 ((bytesRow s C).size,(bytesRow s C).size+1)):=heap_alloc_new w _;simp only[World.cell?,a];rw[yT (show s.toList.length<(bytesRow s C).size by omega)];rfl
 ·rw[World.frozen?_drew,vF _ _ ⟨w.heap.size,s.toList.length,none⟩ (by simp)];have a:(w.alloc (.cells (bytesRow s C) 5 ((bytesRow s C).size,(bytesRow s C).size+1))).heap[w.heap.size]? =some (.cells (bytesRow s C) 5 ((bytesRow s C).size,(bytesRow s C).size+1)):=heap_alloc_new w _;simp only[World.frozen?,a];simp;omega
theorem aFr:(((w.alloc A).alloc (.cells #[x] 5)).drew).cell? ⟨w.heap.size+1,0,none⟩=some x:=by
 rw[World.cell?_drew,World.cell?_alloc_at _ _ _ _ (by simp)];rfl
theorem aCR:zB w (((w.alloc A).alloc (.cells #[x] 5)).drew):=
 ((zb _ _).alloc (by simp) _).drew
theorem dI(wr:World)(hgd:o.guard=none)(sO xO:Operand)(ho:o.op=.call { callee:=.builtin .append,args:=#[sO,xO],argTypes:=#[86,86] })(B:Nat)(s:ByteArray)(c:Int)(cc:UInt8)(C:Nat)(hs:a.eval sO=.slice (some ⟨wr.heap.size,0,none⟩) s.size C)(hx:a.eval xO=.slice (some ⟨wr.heap.size+1,0,none⟩) 1 1)(hs1:s.size<=1000)(hB:B<=wr.heap.size)(hc:c=(cc.toNat:Int))(T:ByteArray)(hT:T=⟨(s.toList++[cc]).toArray⟩)(h:∀g cap w',Below B wr w'->Reads (.slice (some ⟨g,0,none⟩) (s.size+1) cap) T w'->wpList prog ops Q rest (a.put o.dst (.slice (some ⟨g,0,none⟩) (s.size+1) cap)) w'):
  wpList prog ops Q (o::rest) a (((wr.alloc (.cells (bytesRow s C) 5 ((bytesRow s C).size,(bytesRow s C).size+1))).alloc (.cells #[.int .u8 c] 5)).drew):=by
 have b:=aJ s;refine aAJ _ hgd sO xO ho B wr.heap.size (wr.heap.size+1) C s.toList cc (by rw[b];exact hs) hx (by omega) hB (by simp;omega) (by omega) (fun j hj=>aEH wr s C _ _ j hj) (fun hr=>aCO wr s C _ hr) (by rw[hc];exact aFr wr _ _) T hT ?_;intro g cap w' hb hrd;rw[b] at hrd |-;exact h g cap w' (((aCR wr _ _).mono hB).trans hb) hrd
end Qb
namespace Qc
open Qa
theorem aC7(a b s:ByteArray)(n d:Nat)(w:World)(hn:s.size+d=n)(hn11:n<=11)(h:Pm.mayN a.toList b.toList s.toList d=false):
  Calls prog 148 #[.string s,.int .i64 n,.string a,.string b] w fun e w'=>e=.returned (.int .i64 ((Pm.run a.toList b.toList s.toList d).length:Int))/\w'=w:=by
 have c:Hid ((Pm.run a.toList b.toList s.toList d).length=0):=by unfold Hid;rw[Pm.aF1 h];rfl
 have H:=z9 h;have f:Hid (((n:Nat):Int)=s.size+d):=by unfold Hid;omega
 clear h;go_in;go_wp2_with (go_at_call 170;refine(nN s a b d _ _ f.out (by omega)).mono ?_;rintro e w' ⟨rfl,i⟩;subst w';rw[H.out]);go_ret;exact⟨aV (by rw[c.out];rfl),rfl⟩
theorem aEx(a b s:ByteArray)(n:Nat)(w:World)(hb:b.size≤maxLen)(hn:s.size=n)(hn1:1≤n)(hn11:n≤11)(h:Pm.mayN a.toList b.toList s.toList 0=true):
  Calls prog 148 #[.string s,.int .i64 n,.string a,.string b] w fun e w'=>e=.returned (.int .i64 ((Pm.run a.toList b.toList s.toList 0).length:Int))∧w'=w:=by
 have hne:s.toList≠[]:=by intro e;have:=aJ s;rw[e] at this;simp at this;omega
 have hlast:=aDK s (by omega)
 have hfs:=aFP s.toList a.toList b.toList hne
 subst hn
 have HN:Hid (((s.size:Nat):Int)=s.size+(0:Nat)):=by unfold Hid;omega
 have H:=z9 h
 have hsm:s.size≤maxLen:=by unfold maxLen;omega
 have hbq:((s.size:Int)==(s.size:Int))=true:=by simp
 cases hf:fit s.toList a.toList b.toList
 ·have H0:Hid ((Pm.run a.toList b.toList s.toList 0).length=0):=by unfold Hid;rw[Pm.nG,hfs,hf];rfl
  have HF:=z9 hf
  clear h hf hfs hlast hne
  go_in
  go_wp2_with (first | (go_at_call 170;refine(nN s a b 0 _ _ HN.out (by omega)).mono ?_;rintro e w' ⟨rfl,hw⟩;subst w';rw[H.out]) | (go_at_call 171;refine(tC s a b _ hsm hb).mono ?_;rintro e w' ⟨rfl,hw⟩;subst w';rw[HF.out]))
  go_ret
  exact⟨aV (by rw[H0.out];rfl),rfl⟩
 ·have hq0:s.size-1<s.size:=by omega
  cases hq:(((s[s.size-1]'hq0).toNat:Int) !=97)
  ·have H0:Hid ((Pm.run a.toList b.toList s.toList 0).length=0):=by unfold Hid;rw[Pm.nG,hfs,hf,hlast,hq];rfl
   have HF:=z9 hf
   clear h hf hfs hlast hne
   go_in
   go_wp2_with (first | (go_at_call 170;refine(nN s a b 0 _ _ HN.out (by omega)).mono ?_;rintro e w' ⟨rfl,hw⟩;subst w';rw[H.out]) | (go_at_call 171;refine(tC s a b _ hsm hb).mono ?_;rintro e w' ⟨rfl,hw⟩;subst w';rw[HF.out]))
   go_ret
   exact⟨aV (by rw[H0.out];rfl),rfl⟩
  ·have H0:Hid ((Pm.run a.toList b.toList s.toList 0).length=1):=by unfold Hid;rw[Pm.nG,hfs,hf,hlast,hq];rfl
   have HF:=z9 hf
   clear h hf hfs hlast hne
   go_in
   go_wp2_with (first | (go_at_call 170;refine(nN s a b 0 _ _ HN.out (by omega)).mono ?_;rintro e w' ⟨rfl,hw⟩;subst w';rw[H.out]) | (go_at_call 171;refine(tC s a b _ hsm hb).mono ?_;rintro e w' ⟨rfl,hw⟩;subst w';rw[HF.out]))
   go_ret
   exact⟨aV (by rw[H0.out];rfl),rfl⟩
end Qc
namespace Qd
open Pc Qa Qb Qc
def aJc (a b:ByteArray) (n d:Nat):Prop:=∀(s:ByteArray) (w:World),s.size+d=n→
 Calls Tryz.prog 148 #[.string s,.int .i64 n,.string a,.string b] w fun e w'=>e=.returned (.int .i64 ((Pm.run a.toList b.toList s.toList d).length:Int))∧Below w.heap.size w w'
theorem aDx(k:Nat)(h:k<=11):26^k<=3670344486987776:=by
 have:26^k<=26^11:=Nat.pow_le_pow_right (by omega) h;simpa using this
theorem aIw(k:Nat)(h:k<=10):26^k<=141167095653376:=by
 have:26^k<=26^10:=Nat.pow_le_pow_right (by omega) h;simpa using this
theorem aIZ(k:Nat)(h:k<=10):(26:Int)^k<=141167095653376:=by
 have e:=aIw k h;have a:((26^k:Nat):Int)=(26:Int)^k:=Int.natCast_pow 26 k;rw[<-a];omega
theorem all_ways{a b s L H:List UInt8}{d:Nat}(hL:L=s++Pm.rep d 97)(hH:H=s++Pm.rep d 122):
  (Pm.aFv a b s d=true/\((Op.bytesLess L a=false/\(L==a)=false/\b.isEmpty=true)\/(Op.bytesLess L a=false/\(L==a)=false/\b.isEmpty=false/\Op.bytesLess H b=true/\s.isPrefixOf b=false)))\/
  (Pm.aFv a b s d=false/\((Op.bytesLess L a=true)\/(Op.bytesLess L a=false/\(L==a)=true)\/(Op.bytesLess L a=false/\(L==a)=false/\b.isEmpty=false/\Op.bytesLess H b=false)\/(Op.bytesLess L a=false/\(L==a)=false/\b.isEmpty=false/\Op.bytesLess H b=true/\s.isPrefixOf b=true))):=by
 subst hL;subst hH;unfold Pm.aFv;generalize Op.bytesLess (s++Pm.rep d 97) a=x1;generalize (s++Pm.rep d 97==a)=x2;generalize b.isEmpty=x3;generalize Op.bytesLess (s++Pm.rep d 122) b=x4;generalize s.isPrefixOf b=x5;cases x1<;>cases x2<;>cases x3<;>cases x4<;>cases x5<;>simp
theorem aEm(a b:ByteArray)(n d:Nat)(hb:b.size≤maxLen)(hn11:n≤11)(ih:aJc a b n d)(s:ByteArray)(w:World)(hn:s.size+(d+1)=n)(h:Pm.mayN a.toList b.toList s.toList (d+1)=true):
  Calls Tryz.prog 148 #[.string s,.int .i64 n,.string a,.string b] w fun e w'=>e=.returned (.int .i64 ((Pm.run a.toList b.toList s.toList (d+1)).length:Int))∧Below w.heap.size w w':=by
 have HN:Hid (((n:Nat):Int)=s.size+((d+1:Nat):Nat)):=by unfold Hid;omega
 have H:=z9 h
 have hsm:s.size≤maxLen:=by unfold maxLen;omega
 have hne:((s.size:Int)==(n:Int))=false:=by rw[beq_eq_false_iff_ne];omega
 have HI:=z9 ih
 have HNn:=z9 hn
 have hs11:s.size≤10:=by omega
 have hsn:s.size+1≤n:=by omega
 clear h ih hn
 go_enter Tryz.func148,Tryz.ntmps148
 go_wp2_with (first | (go_at_call 170;refine(nN s a b (d+1) _ _ HN.out (by have:=HNn.out;omega)).mono ?_;rintro e w' ⟨rfl,hw⟩;have hw2:=hw.symm;subst hw2;clear hw;rw[H.out]))
 go_loop [10,11] (fun lo hi=>∃(j:Nat) (L H:ByteArray),j≤d+1∧lo=.string L∧hi=.string H∧L.size=s.size+j∧H.size=s.size+j∧Hid (L.toList=s.toList++Pm.rep j 97)∧Hid (H.toList=s.toList++Pm.rep j 122))
  (fun lo _=>20-(match lo with | .string L=>L.size | _=>0))
 case atStart=>exact⟨0,s,s,by omega,rfl,rfl,rfl,rfl,by unfold Hid Pm.rep;simp,by unfold Hid Pm.rep;simp⟩
 case round=>
  obtain⟨j,L,H,hj,rfl,rfl,hL,hH,HL,HH⟩:=hrel
  have hd11:s.size+(d+1)≤11:=by have:=HNn.out;omega
  have hLn:L.size≤20:=by omega
  have hHn:H.size≤20:=by omega
  by_cases hlt:j<d+1
  ·have hc:(L.size:Int)<n:=by have:=HN.out;omega
   have HLs:=z9 hL
   have HHs:=z9 hH
   have HL1:Hid ((L++(⟨#[97]⟩:ByteArray)).size=L.size+1):=by unfold Hid;rw[ByteArray.size_append];rfl
   have HH1:Hid ((H++(⟨#[122]⟩:ByteArray)).size=H.size+1):=by unfold Hid;rw[ByteArray.size_append];rfl
   clear hL hH
   go_wp2
   go_round
   case rel=>exact⟨j+1,_,_,by omega,rfl,rfl,by rw[HL1.out,HLs.out];omega,by rw[HH1.out,HHs.out];omega,by unfold Hid;rw[gP,HL.out,nE,List.append_assoc],by unfold Hid;rw[gP,HH.out,nE,List.append_assoc]⟩
   case measure=>
    have h2:=HLs.out
    show 20-(L++(⟨#[97]⟩:ByteArray)).size<20-L.size
    rw[HL1.out]
    omega
  ·have hjd:j=d+1:=by omega
   subst hjd
   have hc:¬(L.size:Int)<n:=by have:=HN.out;omega
   clear hL hH
   rcases all_ways (a:=a.toList) (b:=b.toList) HL.out HH.out with⟨hA,hw⟩ | ⟨hA,hw⟩
   ·have HA:=z9 (Pm.aFw hA)
    clear hA
    have hd10:d≤10:=by omega
    rcases hw with⟨h1,h2,h3⟩ | ⟨h1,h2,h3,h4,h5⟩
    all_goals
     go_wp2_with fail
     refine(mU s b _ hsm hb).mono ?_
     rintro e w' ⟨rfl,hw⟩
     have hw2:=hw.symm;subst hw2;clear hw
     first | rw[h5] | skip
     go_wp2_with fail
     go_loop [13,14] (fun v i=>∃(q:Nat) (K:Int),q≤d∧i=.int .i64 ((s.size:Int)+1+q)∧v=.int .i64 K∧0≤K∧K≤3529177391334400∧Hid (K=25*26^q)) (fun _ i=>n-(intOf i).toNat)
     case atStart=>exact⟨0,25,by omega,by simp,rfl,by omega,by omega,by unfold Hid;rfl⟩
     case round=>
      obtain⟨q,K,hq,rfl,rfl,hK0,hK1,HK⟩:=hrel
      by_cases hql:q<d
      ·have hc2:(s.size:Int)+1+q<n:=by have:=HNn.out;omega
       have HK2:Hid (K*26=25*26^(q+1)):=by unfold Hid;rw[HK.out,Int.pow_succ,Int.mul_assoc]
       have hK3:K*26≤3529177391334400:=by
        rw[HK2.out]
        have e:=aIZ (q+1) (by omega)
        omega
       go_wp2_with fail
       go_round
       case rel=>exact⟨q+1,K*26,by omega,by go_num,rfl,by omega,hK3,HK2⟩
       case measure=>simp[intOf];omega
      ·have hqd:q=d:=by omega
       have hc2:¬(s.size:Int)+1+q<n:=by have:=HNn.out;omega
       have HF:Hid (((Pm.run a.toList b.toList s.toList (d+1)).length:Int)=K):=by
        unfold Hid;rw[HA.out,HK.out,hqd];simp
       clear hqd
       go_wp2_with fail
       go_ret
       exact⟨aV HF.out.symm,Below.refl _ _⟩
   ·clear hA
    have HR1:Hid ((Pm.run a.toList b.toList s.toList (d+1)).length≤3670344486987776):=Nat.le_trans (Pm.zQ _ _ _ _) (aDx _ (by omega))
    rcases hw with h1 | ⟨h1,h2⟩ | ⟨h1,h2,h3,h4⟩ | ⟨h1,h2,h3,h4,h5⟩
    all_goals
     go_wp2_with fail
     refine(mU s b _ hsm hb).mono ?_
     rintro e w' ⟨rfl,hw⟩
     have hw2:=hw.symm;subst hw2;clear hw
     go_wp2_with fail
     go_loopw [15,16] (fun v i wr=>∃(c S:Int) (j:Nat),Hid (c=97+j)∧97≤c∧c≤123∧i=.int .i64 c∧v=.int .i64 S∧Hid (S=Pm.upto a.toList b.toList s.toList d j)∧Below w.heap.size w wr) (fun _ i _=>123-(intOf i).toNat)
     case atStart=>exact⟨97,0,0,rfl,by omega,by omega,rfl,rfl,by unfold Hid;rw[Pm.wC];rfl,Below.refl _ _⟩
     case round=>
      obtain⟨c,S,j,Hc,hc0,hc1,rfl,rfl,HS,hbel⟩:=hrel
      by_cases hct:c≤122
      ·have hj26:j<26:=by have:=Hc.out;omega
       have hcv:=fun w=>run_bytes_of_string (P:=Tryz.prog) w 9 86 5 s Tryz.underlying9 Tryz.underlying86 Tryz.underlying5
       have HCC:Hid (c=((UInt8.ofNat (97+j)).toNat:Int)):=by
        unfold Hid
        have:(UInt8.ofNat (97+j)).toNat=97+j:=by simp;omega
        rw[this,Hc.out];omega
       obtain⟨T,hT⟩:∃T:ByteArray,T=⟨(s.toList++[UInt8.ofNat (97+j)]).toArray⟩:=⟨_,rfl⟩
       have HT:=z9 hT
       have HTl:Hid (T.toList=s.toList++[UInt8.ofNat (97+j)]):=by unfold Hid;rw[hT,ByteArray.toList_mk]
       have HTs:Hid (T.size+d=n):=by
        unfold Hid;rw[←aJ,HTl.out];simp[aJ];have:=HNn.out;omega
       have hS1:Pm.upto a.toList b.toList s.toList d (j+1)≤(Pm.run a.toList b.toList s.toList (d+1)).length:=Pm.aFd _ _ _ _ _ (by omega)
       have hS2:=Pm.uR a.toList b.toList s.toList d j hj26
       rw[←HTl.out] at hS2
       obtain⟨k,hk⟩:∃k:Nat,k=(Pm.run a.toList b.toList T.toList d).length:=⟨_,rfl⟩
       rw[←hk] at hS2
       have HK:=z9 hk
       have HS2:=z9 hS2
       have hS0:0≤S:=by rw[HS.out];omega
       have hSk:S+k≤3670344486987776:=by rw[HS.out];have:=HR1.out;omega
       have hBr:w.heap.size≤wr.heap.size:=hbel.size
       clear hT hk hS1 hS2
       go_wp2_with (at_builtin;refine dI wr rfl (.tmp 88) (.tmp 91) rfl w.heap.size s _ (UInt8.ofNat (97+j)) _ rfl rfl (by omega) hBr HCC.out T HT.out ?_;intro g cap w1 hb1 hrd;have hcv2:=hrd w1 (Below.refl _ _);clear hcv hrd)
       refine(HI.out T _ HTs.out).mono ?_
       rintro e w2 ⟨rfl,hb2⟩
       rw[←HK.out]
       have hb3:Below w.heap.size w w2:=(hbel.trans hb1).trans (hb2.mono (Nat.le_trans hBr hb1.size))
       clear hcv2 hb1 hb2
       go_wp2_with fail
       go_roundw
       case rel=>exact⟨c+1,S+k,j+1,by have:=Hc.out;unfold Hid;omega,by omega,by omega,rfl,rfl,by unfold Hid;rw[HS2.out,HS.out];omega,hb3⟩
       case measure=>simp[intOf];omega
      ·have hj26:j=26:=by have:=Hc.out;omega
       have HF:Hid (((Pm.run a.toList b.toList s.toList (d+1)).length:Int)=S):=by
        unfold Hid;rw[HS.out,hj26,Pm.tA]
       clear hj26
       go_wp2_with fail
       go_ret
       exact⟨aV HF.out.symm,hbel⟩
theorem sW(a b:ByteArray)(n:Nat)(hb:b.size<=maxLen)(hn1:1<=n)(hn11:n<=11):∀d,aJc a b n d
 | 0=>by
  intro s w hn
  cases h:Pm.mayN a.toList b.toList s.toList 0
  ·refine(aC7 a b s n 0 w hn hn11 h).mono ?_
   rintro e w' ⟨rfl,rfl⟩
   exact⟨rfl,qD _ _⟩
  ·refine(aEx a b s n w hb (by omega) hn1 hn11 h).mono ?_
   rintro e w' ⟨rfl,rfl⟩
   exact⟨rfl,qD _ _⟩
 | d+1=>by
  intro s w hn
  cases h:Pm.mayN a.toList b.toList s.toList (d+1)
  ·refine(aC7 a b s n (d+1) w hn hn11 h).mono ?_
   rintro e w' ⟨rfl,rfl⟩
   exact⟨rfl,qD _ _⟩
  ·exact aEm a b n d hb hn11 (sW a b n hb hn1 hn11 d) s w hn h
end Qd
namespace Qe
open Qb Qd
def At (a b:List UInt8) (t:List UInt8) (s:List UInt8) (d:Nat) (k:Int):Prop:=∃kk:Nat,k=kk∧(Pm.run a b s d)[kk]? =some t
theorem At.zero{a b t s:List UInt8}{k:Int}(h:At a b t s 0 k):t=s:=by
 obtain⟨c,_,h⟩:=h
 rw[Pm.nG] at h
 cases hst:Pm.stem s a b
 ·rw[hst] at h;simp at h
 ·rw[hst] at h
  cases c with
  | zero=>simpa using h.symm
  | succ n=>simp at h
theorem At.next {a b t s:List UInt8} {d j:Nat} {k:Int} (h:At a b t s (d+1) k) (hj:j<26) (h1:(Pm.upto a b s d j:Int)<=k) (h2:k-Pm.upto a b s d j<(Pm.run a b (s++[UInt8.ofNat (97+j)]) d).length):
  At a b t (s++[UInt8.ofNat (97+j)]) d (k-Pm.upto a b s d j):=by
 obtain⟨c,rfl,h⟩:=h;have e:c<Pm.upto a b s d (j+1):=by rw[Pm.uR _ _ _ _ _ hj];omega
 have f:=Pm.zqa a b s d j c hj (by omega) e;rw[f] at h;exact⟨c-Pm.upto a b s d j,by omega,h⟩
theorem At.bound{a b t s:List UInt8}{d:Nat}{k:Int}(h:At a b t s d k):0<=k/\k<(Pm.run a b s d).length:=by
 obtain⟨c,rfl,h⟩:=h;have:=(jK.1 h).1;omega
theorem aHT(a b:ByteArray)(n d:Nat)(k:Int)(t:List UInt8)(s:ByteArray)(w:World)(hb:b.size≤maxLen)(hn1:1≤n)(hn11:n≤11)(hn:s.size+d=n)(h:At a.toList b.toList t s.toList d k):
  Calls Tryz.prog 149 #[.string s,.int .i64 n,.string a,.string b,.int .i64 k] w fun e w'=>∃r:ByteArray,e=.returned (.string r)∧r.toList=t∧Below w.heap.size w w':=by
 have HM:=z9 (sW a b n hb hn1 hn11)
 go_enter Tryz.func149,Tryz.ntmps149
 go_wp2
 go_loopw [0,4] (fun v kv wr=>∃(s':ByteArray) (d':Nat) (k':Int),v=.string s'∧kv=.int .i64 k'∧Hid (s'.size+d'=n)∧Hid (At a.toList b.toList t s'.toList d' k')∧Below w.heap.size w wr)
  (fun v _ _=>20-(match v with | .string L=>L.size | _=>0))
 case atStart=>exact⟨s,d,k,rfl,rfl,hn,h,Below.refl _ _⟩
 case round=>
  clear h hn
  obtain⟨s',d',k',rfl,rfl,Hn,Hat,hbel⟩:=hrel
  have hs11:s'.size≤11:=by have:=Hn.out;omega
  cases d' with
  | zero=>
   have hc:¬(s'.size:Int)<n:=by have:=Hn.out;omega
   have HT:=z9 Hat.out.zero.symm
   go_wp2_with fail
   go_ret
   exact⟨s',rfl,HT.out,hbel⟩
  | succ dd=>
   have hc:(s'.size:Int)<n:=by have:=Hn.out;omega
   go_wp2_with fail
   go_loopw [0,4,11] (fun v kv i wi=>∃(c q:Int) (j:Nat),Hid (c=97+j)∧97≤c∧c≤123∧i=.int .i64 c∧v=.string s'∧kv=.int .i64 q∧Hid (q=k'-Pm.upto a.toList b.toList s'.toList dd j)∧0≤q∧q≤3670344486987776∧Below w.heap.size w wi) (fun _ _ i _=>123-(intOf i).toNat)
   case atStart=>
    have h1:=Hat.out.bound
    have h2:(Pm.run a.toList b.toList s'.toList (dd+1)).length≤3670344486987776:=Nat.le_trans (Pm.zQ _ _ _ _) (aDx _ (by have:=Hn.out;omega))
    exact⟨97,k',0,rfl,by omega,by omega,rfl,rfl,rfl,by unfold Hid;rw[Pm.wC];omega,by omega,by omega,hbel⟩
   case round=>
    clear hbel
    obtain⟨c,q,j,Hc,hc0,hc1,rfl,rfl,rfl,Hq,hq0,hq1,hbel⟩:=hrel
    by_cases hct:c≤122
    ·have hj26:j<26:=by have:=Hc.out;omega
     have hcv:=fun w=>run_bytes_of_string (P:=Tryz.prog) w 9 86 5 s' Tryz.underlying9 Tryz.underlying86 Tryz.underlying5
     have HCC:Hid (c=((UInt8.ofNat (97+j)).toNat:Int)):=by
      unfold Hid
      have:(UInt8.ofNat (97+j)).toNat=97+j:=by simp;omega
      rw[this,Hc.out];omega
     obtain⟨T,hT⟩:∃T:ByteArray,T=⟨(s'.toList++[UInt8.ofNat (97+j)]).toArray⟩:=⟨_,rfl⟩
     have HT:=z9 hT
     have HTl:Hid (T.toList=s'.toList++[UInt8.ofNat (97+j)]):=by unfold Hid;rw[hT,ByteArray.toList_mk]
     have HTs:Hid (T.size+dd=n):=by
      unfold Hid;rw[←aJ,HTl.out];simp[aJ];have:=Hn.out;omega
     have HTz:Hid (T.size=s'.size+1):=by have h1:=HTs.out;have h2:=Hn.out;unfold Hid;omega
     have HS2:Hid (Pm.upto a.toList b.toList s'.toList dd (j+1)=Pm.upto a.toList b.toList s'.toList dd j+(Pm.run a.toList b.toList T.toList dd).length):=by
      unfold Hid;rw[HTl.out];exact Pm.uR _ _ _ _ _ hj26
     obtain⟨m,hm⟩:∃m:Nat,m=(Pm.run a.toList b.toList T.toList dd).length:=⟨_,rfl⟩
     have HMm:=z9 hm
     have hm1:m≤3670344486987776:=by rw[hm];exact Nat.le_trans (Pm.zQ _ _ _ _) (aDx _ (by have:=Hn.out;omega))
     have hBr:w.heap.size≤wr.heap.size:=hbel.size
     clear hT hm
     by_cases hqm:q<m
     ·have HN2:Hid (At a.toList b.toList t T.toList dd q):=by
       unfold Hid
       rw[HTl.out,Hq.out]
       exact Hat.out.next hj26 (by have:=Hq.out;omega) (by rw[←Hq.out,←HTl.out,←HMm.out];exact hqm)
      go_wp2_with (at_builtin;refine dI wr rfl (.tmp 24) (.tmp 27) rfl w.heap.size s' _ (UInt8.ofNat (97+j)) _ rfl rfl (by omega) hBr HCC.out T HT.out ?_;intro g cap w1 hb1 hrd;have hcv2:=hrd w1 (Below.refl _ _);clear hcv)
      refine(HM.out dd T _ HTs.out).mono ?_
      rintro e w2 ⟨rfl,hb2⟩
      rw[←HMm.out]
      have hb3:Below w.heap.size w w2:=(hbel.trans hb1).trans (hb2.mono (Nat.le_trans hBr hb1.size))
      have hcv3:=hrd w2 hb2
      clear hcv2 hb1 hb2 hrd
      go_wp2_with fail
      go_roundw
      case rel=>exact⟨T,dd,q,rfl,rfl,HTs,HN2,hb3⟩
      case measure=>
       have h1:=HTz.out
       have h2:=Hn.out
       show 20-T.size<20-s'.size
       omega
     ·go_wp2_with (at_builtin;refine dI wr rfl (.tmp 24) (.tmp 27) rfl w.heap.size s' _ (UInt8.ofNat (97+j)) _ rfl rfl (by omega) hBr HCC.out T HT.out ?_;intro g cap w1 hb1 hrd;have hcv2:=hrd w1 (Below.refl _ _);clear hcv hrd)
      refine(HM.out dd T _ HTs.out).mono ?_
      rintro e w2 ⟨rfl,hb2⟩
      rw[←HMm.out]
      have hb3:Below w.heap.size w w2:=(hbel.trans hb1).trans (hb2.mono (Nat.le_trans hBr hb1.size))
      clear hcv2 hb1 hb2
      go_wp2_with fail
      go_roundw
      case rel=>exact⟨c+1,q-m,j+1,by have:=Hc.out;unfold Hid;omega,by omega,by omega,rfl,rfl,rfl,by unfold Hid;rw[HS2.out,Hq.out,←HMm.out];omega,by omega,by omega,hb3⟩
      case measure=>simp[intOf];omega
    ·exfalso
     have hj26:j=26:=by have:=Hc.out;omega
     have h1:=Hat.out.bound
     have h2:=Hq.out
     rw[hj26,Pm.tA] at h2
     omega
end Qe
namespace Qf
theorem nO{s:ByteArray}(h12:¬12<s.size)(hall:s.toList.all Pm.isLet=true)(h2:2<=s.size):
  Pm.chk s.toList=if((s[s.size-1]'(by omega)).toNat:Int)<98 then 2 else if 105<((s[s.size-1]'(by omega)).toNat:Int) then 2 else if(((s[s.size-2]'(by omega)).toNat:Int)==97)=true then 2 else 0:=by
 have c:=iG s (by omega);unfold Pm.chk;rw[(aJ s),if_neg h12,if_neg (by omega),hall,(hU s h2)]
 have d:Pm.isWho (Pm.whoOf s.toList)=(decide (98<=((s[s.size-1]'(by omega)).toNat:Int))&&decide (((s[s.size-1]'(by omega)).toNat:Int)<=105)):=by
  unfold Pm.isWho Pm.whoOf;rw[c];rw[xP];simp;omega
 rw[d];generalize ((s[s.size-1]'(by omega)).toNat:Int)=x;generalize (((s[s.size-2]'(by omega)).toNat:Int)==97)=y;by_cases a:x<98
 ·rw[if_pos a,decide_eq_false (by omega)];cases y<;>simp
 ·rw[if_neg a,decide_eq_true (by omega)];by_cases b:105<x
  ·rw[if_pos b,decide_eq_false (by omega)];cases y<;>simp
  ·rw[if_neg b,decide_eq_true (by omega)];cases y<;>simp
theorem bM(s:ByteArray)(w:World)(hs:s.size≤maxLen):
  Calls prog 120 #[.string s] w fun e w'=>e=.returned (.int .i64 (Pm.chk s.toList))∧w'=w:=by
 have hl:=aJ s
 have hm:=hs
 unfold maxLen at hm
 by_cases h12:12<s.size
 ·have H:Hid (Pm.chk s.toList=4):=by unfold Hid Pm.chk;rw[hl,if_pos h12]
  clear hl
  go_in
  go_wp2
  go_ret
  exact⟨aV H.out.symm,rfl⟩
 ·have HB:Hid (s.toList.all Pm.isLet=false→Pm.chk s.toList=2):=by
   intro h3;unfold Pm.chk;rw[hl,if_neg h12,h3];simp
  have HL:Hid (s.size<2→Pm.chk s.toList=2):=by
   intro h3;unfold Pm.chk;rw[hl,if_neg h12,if_pos h3]
  clear hl
  go_in
  go_wp2
  go_loop [4] (fun i=>∃k:Nat,k≤s.size∧i=zI k∧Hid ((s.toList.take k).all Pm.isLet=true)) (fun i=>s.size-(intOf i).toNat)
  case atStart=>exact⟨0,jW _,rfl,by unfold Hid;simp⟩
  case round=>
   obtain⟨k,hk,rfl,HA⟩:=hrel
   by_cases hlt:k<s.size
   ·have hb:s[k].toNat<256:=jX _
    have HA1:Hid ((s.toList.take (k+1)).all Pm.isLet=Pm.isLet s[k]):=by
     unfold Hid;rw[fP s k hlt,yM,HA.out];simp
    have HA2:Hid (∀c,s.toList.all c=((s.toList.take (k+1)).all c&&(s.toList.drop (k+1)).all c)):=by
     intro c;rw[←yM,xD]
    have HLt:Hid (Pm.isLet s[k]=(!(decide ((s[k].toNat:Int)<97)||decide (122<(s[k].toNat:Int))))):=fM _
    by_cases h1:(s[k].toNat:Int)<97
    ·have H:=z9 (HB.out (by rw[HA2.out,HA1.out,HLt.out,decide_eq_true h1];rfl))
     go_wp2
     go_ret
     exact⟨aV H.out.symm,rfl⟩
    ·by_cases h2:122<(s[k].toNat:Int)
     ·have H:=z9 (HB.out (by rw[HA2.out,HA1.out,HLt.out,decide_eq_true h2,Bool.or_true];rfl))
      go_wp2
      go_ret
      exact⟨aV H.out.symm,rfl⟩
     ·go_wp2
      go_round
      case rel=>exact⟨k+1,by omega,by go_num,by unfold Hid;rw[HA1.out,HLt.out,decide_eq_false h1,decide_eq_false h2];rfl⟩
      case measure=>simp[intOf];omega
   ·have HAll:Hid (s.toList.all Pm.isLet=true):=by
     have:=HA.out
     unfold Hid;rwa [qW (by rw[aJ];omega)] at this
    by_cases h2:s.size<2
    ·have H:=z9 (HL.out h2)
     go_wp2
     go_ret
     exact⟨aV H.out.symm,rfl⟩
    ·have hq1:s.size-1<s.size:=by omega
     have hq2:s.size-2<s.size:=by omega
     have HC:=nO h12 HAll.out (by omega:2≤s.size)
     have HC':=z9 HC
     clear HC
     by_cases h3:((s[s.size-1]'hq1).toNat:Int)<98
     ·have H:Hid (Pm.chk s.toList=2):=by unfold Hid;rw[HC'.out,if_pos h3]
      go_wp2
      go_ret
      exact⟨aV H.out.symm,rfl⟩
     ·by_cases h4:105<((s[s.size-1]'hq1).toNat:Int)
      ·have H:Hid (Pm.chk s.toList=2):=by unfold Hid;rw[HC'.out,if_neg h3,if_pos h4]
       go_wp2
       go_ret
       exact⟨aV H.out.symm,rfl⟩
      ·cases h5:(((s[s.size-2]'hq2).toNat:Int)==97)
       ·have H:Hid (Pm.chk s.toList=0):=by unfold Hid;rw[HC'.out,if_neg h3,if_neg h4,h5];rfl
        go_wp2
        go_ret
        exact⟨aV H.out.symm,rfl⟩
       ·have H:Hid (Pm.chk s.toList=2):=by unfold Hid;rw[HC'.out,if_neg h3,if_neg h4,h5];rfl
        go_wp2
        go_ret
        exact⟨aV H.out.symm,rfl⟩
end Qf
namespace Qg
open Qf
theorem fB(a b:ByteArray)(w:World)(ha:a.size<=maxLen)(hb:b.size<=maxLen):
  Calls prog 117 #[.string a,.string b] w fun e w'=>e=.returned (.int .i64 (Pm.sides a.toList b.toList))/\w'=w:=by
 cases ea:a.toList.isEmpty<;>cases eb:b.toList.isEmpty
 all_goals
  have c:=ea;have f:=eb;simp only[List.isEmpty_iff,List.isEmpty_eq_false_iff] at c f
 ·by_cases d:Pm.chk a.toList=0
  ·by_cases g:Pm.chk b.toList=0
   ·cases h3:Op.bytesLess a.toList b.toList
    ·have H:Hid (Pm.sides a.toList b.toList=3):=by unfold Hid Pm.sides;simp[c,f,d,g,h3]
     have i:=z9 d;have n:=z9 g;clear d g c f;go_in;go_wp2_with fail;refine(bM a _ ha).mono ?_;rintro e w' ⟨rfl,h⟩;subst w';rw[i.out];go_wp2_with fail;refine(bM b _ hb).mono ?_;rintro e w' ⟨rfl,h⟩;subst w';rw[n.out];go_wp2_with fail;go_ret;exact⟨aV H.out.symm,rfl⟩
    ·have H:Hid (Pm.sides a.toList b.toList=0):=by unfold Hid Pm.sides;simp[c,f,d,g,h3]
     have i:=z9 d;have n:=z9 g;clear d g c f;go_in;go_wp2_with fail;refine(bM a _ ha).mono ?_;rintro e w' ⟨rfl,h⟩;subst w';rw[i.out];go_wp2_with fail;refine(bM b _ hb).mono ?_;rintro e w' ⟨rfl,h⟩;subst w';rw[n.out];go_wp2_with fail;go_ret;exact⟨aV H.out.symm,rfl⟩
   ·have H:Hid (Pm.sides a.toList b.toList=Pm.chk b.toList):=by unfold Hid Pm.sides;simp[c,f,d,g]
    have i:=z9 d;have n:=z9 g;clear d g c f;obtain⟨p,j⟩:∃p,Pm.chk b.toList=p:=⟨_,rfl⟩;have r:(p==0)=false:=by rw[beq_eq_false_iff_ne,<-j];exact n.out
    have k:=z9 j;clear j;go_in;go_wp2_with fail;refine(bM a _ ha).mono ?_;rintro e w' ⟨rfl,h⟩;subst w';rw[i.out];go_wp2_with fail;refine(bM b _ hb).mono ?_;rintro e w' ⟨rfl,h⟩;subst w';rw[k.out];go_wp2_with fail;refine(bM b _ hb).mono ?_;rintro e w' ⟨rfl,h⟩;subst w';rw[k.out];go_wp2_with fail;go_ret;exact⟨aV (by rw[H.out,k.out]),rfl⟩
  ·have H:Hid (Pm.sides a.toList b.toList=Pm.chk a.toList):=by unfold Hid Pm.sides;simp[c,d]
   have i:=z9 d;clear d c f;obtain⟨q,l⟩:∃q,Pm.chk a.toList=q:=⟨_,rfl⟩;have s:(q==0)=false:=by rw[beq_eq_false_iff_ne,<-l];exact i.out
   have m:=z9 l;clear l;go_in;go_wp2_with fail;refine(bM a _ ha).mono ?_;rintro e w' ⟨rfl,h⟩;subst w';rw[m.out];go_wp2_with fail;refine(bM a _ ha).mono ?_;rintro e w' ⟨rfl,h⟩;subst w';rw[m.out];go_wp2_with fail;go_ret;exact⟨aV (by rw[H.out,m.out]),rfl⟩
 ·by_cases d:Pm.chk a.toList=0
  ·have H:Hid (Pm.sides a.toList b.toList=0):=by unfold Hid Pm.sides;simp[c,f,d]
   have i:=z9 d;clear d c f;go_in;go_wp2_with fail;refine(bM a _ ha).mono ?_;rintro e w' ⟨rfl,h⟩;subst w';rw[i.out];go_wp2_with fail;go_ret;exact⟨aV H.out.symm,rfl⟩
  ·have H:Hid (Pm.sides a.toList b.toList=Pm.chk a.toList):=by unfold Hid Pm.sides;simp[c,d]
   have i:=z9 d;clear d c f;obtain⟨q,l⟩:∃q,Pm.chk a.toList=q:=⟨_,rfl⟩;have s:(q==0)=false:=by rw[beq_eq_false_iff_ne,<-l];exact i.out
   have m:=z9 l;clear l;go_in;go_wp2_with fail;refine(bM a _ ha).mono ?_;rintro e w' ⟨rfl,h⟩;subst w';rw[m.out];go_wp2_with fail;refine(bM a _ ha).mono ?_;rintro e w' ⟨rfl,h⟩;subst w';rw[m.out];go_wp2_with fail;go_ret;exact⟨aV (by rw[H.out,m.out]),rfl⟩
 ·by_cases g:Pm.chk b.toList=0
  ·have H:Hid (Pm.sides a.toList b.toList=0):=by unfold Hid Pm.sides;simp[c,f,g]
   have n:=z9 g;clear g c f;go_in;go_wp2_with fail;refine(bM b _ hb).mono ?_;rintro e w' ⟨rfl,h⟩;subst w';rw[n.out];go_wp2_with fail;go_ret;exact⟨aV H.out.symm,rfl⟩
  ·have H:Hid (Pm.sides a.toList b.toList=Pm.chk b.toList):=by unfold Hid Pm.sides;simp[c,f,g]
   have n:=z9 g;clear g c f;obtain⟨p,j⟩:∃p,Pm.chk b.toList=p:=⟨_,rfl⟩;have r:(p==0)=false:=by rw[beq_eq_false_iff_ne,<-j];exact n.out
   have k:=z9 j;clear j;go_in;go_wp2_with fail;refine(bM b _ hb).mono ?_;rintro e w' ⟨rfl,h⟩;subst w';rw[k.out];go_wp2_with fail;refine(bM b _ hb).mono ?_;rintro e w' ⟨rfl,h⟩;subst w';rw[k.out];go_wp2_with fail;go_ret;exact⟨aV (by rw[H.out,k.out]),rfl⟩
 ·have H:Hid (Pm.sides a.toList b.toList=0):=by unfold Hid Pm.sides;simp[c,f]
  clear c f;go_in;go_wp2_with fail;go_ret;exact⟨aV H.out.symm,rfl⟩
end Qg
namespace Pm
def quarter (a b:List UInt8):List UInt8:=match search a b 11 [[]] with
 | none=>[]
 | some st=>pick st
theorem aEE{a b:List UInt8}{n:Nat}(h0:0<n)(h11:n<=11)(hne:lev a b n≠[])(hno:∀j,0<j->j<n->lev a b j=[]):search a b 11 [[]]=some (lev a b n):=by
 rcases search_first a b with⟨m,h1,h2,h3,h4,h5⟩ | ⟨h1,h2⟩
 ·have c:m=n:=by
   rcases Nat.lt_trichotomy m n with h | h | h
   ·exact absurd (hno m h1 h) h3
   ·exact h
   ·exact absurd (h4 n h0 h) hne
  rw[<-c];exact h5
 ·exact absurd (h1 n h0 h11) hne
theorem zR{a b:List UInt8}(hno:∀j,0<j->j<12->lev a b j=[]):search a b 11 [[]]=none:=by
 rcases search_first a b with⟨m,h1,h2,h3,h4,h5⟩ | ⟨h1,h2⟩
 ·exact absurd (hno m h1 (by omega)) h3
 ·exact h2
theorem eO{a b:List UInt8}:(quarter a b=[]↔search a b 11 [[]]=none)/\(quarter a b).length<=11:=by
 unfold quarter
 cases hs:search a b 11 [[]] with
 | none=>simp
 | some st=>
  obtain⟨c,m,j,k,d,_⟩:=eG 11 0 [[]] st Flat.start hs
  have l:0<st.length:=by cases st with
   | nil=>exact absurd rfl c
   | cons _ _=>simp
  have f:(st.length-1)/4<st.length:=by omega
  have e:pick st=st[(st.length-1)/4]:=by unfold pick;rw[qA,qB f];rfl
  have g:=(d _ (jF f)).1
  simp only[e]
  refine⟨⟨fun h=> ?_,fun h=>by cases h⟩,by omega⟩
  rw[h] at g;simp at g;omega
theorem zK(a b:List UInt8)(hs:sides a b=0):roomErr a b=(if quarter a b=[] then 8 else 0)/\oK a b=(if quarter a b=[] then 0 else((quarter a b).length:Int)+1):=by
 cases hf:search a b 11 [[]] with
 | none=>
  have c:=eO.1.2 hf
  simp[roomErr,oK,hs,hf,c]
 | some st=>
  have c:quarter a b≠[]:=fun h=>by have:=eO.1.1 h;rw[hf] at this;cases this
  obtain⟨g,m,l,n,d,_⟩:=eG 11 0 [[]] st Flat.start hf
  have j:0<st.length:=by cases st with
   | nil=>exact absurd rfl g
   | cons _ _=>simp
  have f:(st.length-1)/4<st.length:=by omega
  have e:quarter a b=st[(st.length-1)/4]:=by unfold quarter;rw[hf];show pick st=_;unfold pick;rw[qA,qB f];rfl
  have k:st.getD 0 []=st[0]:=by rw[qA,qB j];rfl
  rw[if_neg c,if_neg c,e,((d _ (jF f)).1)]
  simp only[roomErr,oK,hs,hf]
  rw[k,((d _ (jF j)).1)]
  simp
theorem aA2(a b:List UInt8)(who:Int)(hw:isWho who=true)(hs:sides a b=0):
  betErr a b who=(if quarter a b=[] then 8 else 0)/\betText a b who=(if quarter a b=[] then[] else quarter a b++[UInt8.ofNat (97+who.toNat)]):=by
 constructor
 ·unfold betErr;rw[hw];exact(zK a b hs).1
 ·cases hf:search a b 11 [[]] with
  | none=>
   have c:=eO.1.2 hf
   simp[betText,hw,hs,hf,c]
  | some st=>
   have c:quarter a b≠[]:=fun h=>by have:=eO.1.1 h;rw[hf] at this;cases this
   rw[if_neg c]
   simp only[betText,hw,hs,hf,quarter]
   simp
end Pm
namespace Qh
open Qd Qe
theorem sI:(⟨#[]⟩:ByteArray).toList=[]:=ByteArray.toList_mk []
theorem sZ:(⟨#[]⟩:ByteArray).size=0:=rfl
theorem rC(a b:ByteArray)(w:World)(hb:b.size<=maxLen):
  Calls prog 118 #[.string a,.string b] w fun e w'=>∃r:ByteArray,e=.returned (.string r)/\r.toList=Pm.quarter a.toList b.toList/\zB w w':=by
 go_in;go_wp2;go_loopw [5] (fun i wr=>∃n:Nat,1<=n/\n<=12/\i=zI n/\Hid (∀j,0<j->j<n->Pm.lev a.toList b.toList j=[])/\zB w wr) (fun i _=>12-(intOf i).toNat)
 case atStart=>exact⟨1,by omega,by omega,rfl,fun j h1 h2=>by omega,qD _ _⟩
 case round=>
  obtain⟨n,q,E,rfl,l,c⟩:=hrel;by_cases o:n<=11
  ·have z:=z9 (sW a b n hb q o n);have p:Hid ((Pm.run a.toList b.toList (⟨#[]⟩:ByteArray).toList n)=Pm.lev a.toList b.toList n):=by unfold Hid;rw[sI,Pm.aHA]
   obtain⟨m,v⟩:∃m:Nat,m=(Pm.run a.toList b.toList (⟨#[]⟩:ByteArray).toList n).length:=⟨_,rfl⟩;have f:=z9 v;have K:m<=3670344486987776:=by rw[v];exact qO (Pm.zQ _ _ _ _) (aDx _ (by omega))
   clear v;rcases Nat.eq_zero_or_pos m with h0 | h0
   ·have F:Hid (Pm.lev a.toList b.toList n=[]):=by
     unfold Hid;rw[<-p.out];exact qK (by rw[<-f.out];exact h0)
    subst h0;go_wp2_with fail;refine(z.out ⟨#[]⟩ _ (by rw[sZ];omega)).mono ?_;rintro e w1 ⟨rfl,g⟩;rw[<-f.out];have k:zB w w1:=c.trans (g.mono c.size);clear g;go_wp2_with fail;go_roundw
    case rel=>exact⟨n+1,by omega,by omega,by go_num,fun j h1 h2=>by
     rcases xR j n with h | h
     ·exact l.out j h1 h
     ·rw[show j=n from by omega];exact F.out,k⟩
    case measure=>simp[intOf];omega
   ·have G:Hid (At a.toList b.toList (Pm.quarter a.toList b.toList) (⟨#[]⟩:ByteArray).toList n (((m:Int)-1)/4)):=by
     unfold Hid
     have A:Pm.lev a.toList b.toList n≠[]:=by
      rw[<-p.out];intro e;have:=f.out;rw[e] at this;simp at this;omega
     have H:=Pm.aEE (by omega) o A l.out;refine⟨(m-1)/4,by omega, ?_⟩;have y:m=(Pm.lev a.toList b.toList n).length:=by rw[f.out,p.out]
     have B:(m-1)/4<(Pm.lev a.toList b.toList n).length:=by omega
     rw[p.out,qB B];unfold Pm.quarter;rw[H];show _=some (Pm.pick (Pm.lev a.toList b.toList n))
     unfold Pm.pick;rw[<-y,qA,qB B];rfl
    go_wp2_with fail;refine(z.out ⟨#[]⟩ _ (by rw[sZ];omega)).mono ?_;rintro e w1 ⟨rfl,g⟩;rw[<-f.out];have k:zB w w1:=c.trans (g.mono c.size);clear g;go_wp2_with fail;refine(aHT a b n n _ _ ⟨#[]⟩ _ hb q o (by rw[sZ];omega) G.out).mono ?_;rintro e w2 ⟨r,rfl,C,t⟩;have D:zB w w2:=k.trans (t.mono k.size);have I:=z9 C;clear t C;go_wp2_with fail;go_ret;exact⟨r,rfl,I.out,D⟩
  ·have J:Hid (Pm.quarter a.toList b.toList=[]):=by
    unfold Hid;refine Pm.eO.1.2 (Pm.zR ?_);intro j h1 h2;exact l.out j h1 (by omega)
   go_wp2_with fail;go_ret;exact⟨⟨#[]⟩,rfl,by rw[J.out,sI],c⟩
end Qh
namespace Qi
open Qb Qg Qh
theorem qM(a b:ByteArray)(who:Int)(w:World)(ha:a.size <=maxLen)(hb:b.size <=maxLen)(h1:1 <=who)(h8:who <=8)(tb:ByteArray)(htb:tb=⟨(Pm.betText a.toList b.toList who).toArray⟩)(eb:Int)(heb:Pm.betErr a.toList b.toList who=eb):
  Calls prog 90 #[.string a,.string b,.int .i64 who] w fun e w'=>e=.returned (.tuple #[.string tb,.int .i64 eb]) /\ zB w w':=by
 have n:Pm.isWho who=true:=by simp[Pm.isWho,h1,h8]
 by_cases f:Pm.sides a.toList b.toList=0
 ·obtain⟨c,d⟩:=Pm.aA2 a.toList b.toList who n f
  have y:=z9 f
  by_cases m:Pm.quarter a.toList b.toList=[]
  ·rw[if_pos m] at c d
   have o:Hid (eb=8):=by unfold Hid;rw[<- heb,c]
   have p:Hid (tb=⟨#[]⟩):=by unfold Hid;rw[htb,d]
   have s:=z9 m
   clear f m c d heb htb
   go_in
   go_wp2_with fail
   refine(fB a b _ ha hb).mono ?_
   rintro e w' ⟨rfl,h⟩
   have i:=h.symm;subst i;clear h
   rw[y.out]
   go_wp2_with fail
   refine(rC a b _ hb).mono ?_
   rintro e w1 ⟨r,rfl,j,k⟩
   have z:r.toList.isEmpty=true:=by rw[j,s.out];rfl
   clear j
   go_wp2_with fail
   go_ret2
   exact⟨by rw[o.out,p.out];rfl,k⟩
  ·rw[if_neg m] at c d
   have o:Hid (eb=0):=by unfold Hid;rw[<- heb,c]
   have s:=z9 m
   have v:Hid ((Pm.quarter a.toList b.toList).length <=11):=Pm.eO.2
   have p:Hid (tb=⟨(Pm.quarter a.toList b.toList++[UInt8.ofNat (97+who.toNat)]).toArray⟩):=by unfold Hid;rw[htb,d]
   have D:Hid (97+who=((UInt8.ofNat (97+who.toNat)).toNat:Int)):=by
    have:(UInt8.ofNat (97+who.toNat)).toNat=97+who.toNat:=by simp;omega
    unfold Hid;rw[this];omega
   clear f m c d heb htb
   go_in
   go_wp2_with fail
   refine(fB a b _ ha hb).mono ?_
   rintro e w' ⟨rfl,h⟩
   have i:=h.symm;subst i;clear h
   rw[y.out]
   go_wp2_with fail
   refine(rC a b _ hb).mono ?_
   rintro e w1 ⟨r,rfl,j,k⟩
   have z:r.toList.isEmpty=false:=by
    rw[j];cases hc:Pm.quarter a.toList b.toList with
    | nil=>exact absurd hc s.out
    | cons _ _=>rfl
   have E:r.size <=11:=by rw[<- aJ,j];exact v.out
   have A:Hid (tb=⟨(r.toList++[UInt8.ofNat (97+who.toNat)]).toArray⟩):=by unfold Hid;rw[j];exact p.out
   have B:=fun w=>run_bytes_of_string (P:=prog) w 9 86 5 r Tryz.underlying9 Tryz.underlying86 Tryz.underlying5
   clear j
   go_wp2_with (at_builtin;refine dI w1 rfl (.tmp 24) (.tmp 28) rfl w1.heap.size r _ (UInt8.ofNat (97+who.toNat)) _ rfl rfl (by omega) (qC _) D.out tb A.out ?_;intro g cap w2 hb2 hrd;have F:=hrd w2 (qD _ _);clear B hrd)
   go_ret2
   exact⟨by rw[o.out];rfl,k.trans (hb2.mono k.size)⟩
 ·have c:Pm.betErr a.toList b.toList who=Pm.sides a.toList b.toList:=by unfold Pm.betErr Pm.roomErr;simp[n,f]
  have d:Pm.betText a.toList b.toList who=[]:=by unfold Pm.betText;simp[f]
  obtain⟨q,l⟩:∃q,Pm.sides a.toList b.toList=q:=⟨_,rfl⟩
  have C:=z9 l
  have G:(q==0)=false:=by rw[beq_eq_false_iff_ne, <- l];exact f
  have o:Hid (eb=q):=by unfold Hid;rw[<- heb,c,l]
  have p:Hid (tb=⟨#[]⟩):=by unfold Hid;rw[htb,d]
  clear f c d heb htb l
  go_in
  go_wp2_with fail
  refine(fB a b _ ha hb).mono ?_
  rintro e w' ⟨rfl,h⟩
  have i:=h.symm;subst i;clear h
  rw[C.out]
  go_wp2_with fail
  go_ret2
  exact⟨by rw[o.out,p.out];rfl,qD _ _⟩
end Qi
end Go.Proofs.YtjcemlmlfoilmaaGreatDoor
