import Derived.Test.YtlmdchpbpgcfmaaGreatDoorP1
import Derived.Test.YtlmdchpbpgcfmaaGreatDoorP2
import Derived.Laws.IdiomStrings
import Derived.ArgAppend
set_option linter.unusedVariables false
set_option maxRecDepth 100000
set_option maxHeartbeats 8000000
/- How many texts of so many letters that begin so are stems, and which: by lists. No program is named here. -/
namespace Go.Proofs.YtlmdchpbpgcfmaaGreatDoor
namespace Pm
open Op (bytesLess)
theorem less_trans:∀{x y z:List UInt8},bytesLess x y=true→bytesLess y z=true→bytesLess x z=true
 | _,[],_,h,_=>by simp[bytesLess] at h
 | _,_::_,[],_,h=>by simp[bytesLess] at h
 | [],_::_,_::_,_,_=>rfl
 | a::x,b::y,c::z,h1,h2=>by
  simp only[bytesLess,Bool.or_eq_true,decide_eq_true_eq,Bool.and_eq_true,beq_iff_eq,UInt8.lt_iff_toNat_lt] at h1 h2 ⊢
  rcases h1 with h1 | ⟨rfl,h1⟩
  ·rcases h2 with h2 | ⟨rfl,h2⟩
   ·left;omega
   ·exact Or.inl h1
  ·rcases h2 with h2 | ⟨rfl,h2⟩
   ·exact Or.inl h2
   ·exact Or.inr ⟨rfl,less_trans h1 h2⟩
/- x is not above y, y not above z: x is not above z -/
theorem lt_le {a x y:List UInt8} (h1:bytesLess a x=true) (h2:bytesLess y x=false):bytesLess a y=true:=by
 by_cases e:y=x
 ·rw[e];exact h1
 ·exact less_trans h1 (less_total h2 e)
theorem le_lt {x y b:List UInt8} (h1:bytesLess y x=false) (h2:bytesLess y b=true):bytesLess x b=true:=by
 by_cases e:y=x
 ·rw[←e];exact h2
 ·exact less_trans (less_total h1 e) h2
/- of so many letters: the least, and the greatest -/
def rep (d:Nat) (c:UInt8):List UInt8:=List.replicate d c
theorem rep_low:∀(r:List UInt8),r.all isLet=true→bytesLess r (rep r.length 97)=false
 | [],_=>rfl
 | x::r,h=>by
  simp only[List.all_cons,Bool.and_eq_true] at h
  have ih:=rep_low r h.2
  simp only[isLet,decide_eq_true_eq] at h
  simp only[List.length_cons,rep,List.replicate_succ,bytesLess,Bool.or_eq_false_iff,decide_eq_false_iff_not,Bool.and_eq_false_iff,UInt8.lt_iff_toNat_lt]
  refine⟨?_,Or.inr ih⟩
  show¬x.toNat<97
  omega
theorem rep_high:∀(r:List UInt8),r.all isLet=true→bytesLess (rep r.length 122) r=false
 | [],_=>rfl
 | x::r,h=>by
  simp only[List.all_cons,Bool.and_eq_true] at h
  have ih:=rep_high r h.2
  simp only[isLet,decide_eq_true_eq] at h
  simp only[List.length_cons,rep,List.replicate_succ,bytesLess,Bool.or_eq_false_iff,decide_eq_false_iff_not,Bool.and_eq_false_iff,UInt8.lt_iff_toNat_lt]
  refine⟨?_,Or.inr ih⟩
  show¬122<x.toNat
  omega
theorem texts_flat:∀k,Flat k (texts k)
 | 0=>Flat.start
 | k+1=>(texts_flat k).exts
theorem texts_length:∀k,(texts k).length=26^k
 | 0=>rfl
 | k+1=>by
  have h:∀l:List (List UInt8),(l.flatMap ext).length=26*l.length:=by
   intro l
   induction l with
   | nil=>rfl
   | cons x r ih=>rw[List.flatMap_cons,List.length_append,ih,ext_length,List.length_cons];omega
  show((texts k).flatMap ext).length=_
  rw[h,texts_length k,Nat.pow_succ];omega
theorem ext_cons (c:UInt8) (t:List UInt8):ext (c::t)=(ext t).map (c:: ·):=by simp[ext]
theorem exts_map_cons (c:UInt8) (l:List (List UInt8)):exts (l.map (c:: ·))=(exts l).map (c:: ·):=by
 unfold exts
 rw[List.flatMap_map,List.map_flatMap]
 have e:(fun t=>ext (c::t))=fun t=>(ext t).map (c:: ·):=funext (ext_cons c)
 rw[e]
theorem texts_front:∀d,texts (d+1)=letters.flatMap fun c=>(texts d).map (c:: ·)
 | 0=>by
  have h:∀l:List UInt8,l.map (fun c=>[c])=l.flatMap fun c=>[[c]]:=by
   intro l
   induction l with
   | nil=>rfl
   | cons x r ih=>rw[List.map_cons,List.flatMap_cons,ih];rfl
  show exts [[]]=_
  have e:exts [[]]=letters.map fun c=>[c]:=by simp[exts,ext]
  rw[e,h];rfl
 | d+1=>by
  have e1:texts (d+2)=exts (letters.flatMap fun c=>(texts d).map (c:: ·)):=by rw[←texts_front d];rfl
  have e2:∀l:List UInt8,exts (l.flatMap fun c=>(texts d).map (c:: ·))=l.flatMap fun c=>(texts (d+1)).map (c:: ·):=by
   intro l
   induction l with
   | nil=>rfl
   | cons x r ih=>
    have ea:∀u v,exts (u++v)=exts u++exts v:=fun u v=>by simp[exts]
    rw[List.flatMap_cons,List.flatMap_cons,ea,ih,exts_map_cons];rfl
  rw[e1,e2]
/- the stems of d letters more than s that begin with s -/
def run (a b s:List UInt8) (d:Nat):List (List UInt8):=((texts d).map (s ++ ·)).filter fun t=>stem t a b
theorem run_zero (a b s:List UInt8):run a b s 0=if stem s a b then[s] else[]:=by
 simp only[run,texts,List.map_cons,List.map_nil,List.append_nil,List.filter_cons,List.filter_nil]
theorem run_succ (a b s:List UInt8) (d:Nat):run a b s (d+1)=letters.flatMap fun c=>run a b (s++[c]) d:=by
 unfold run
 rw[texts_front,List.map_flatMap,List.filter_flatMap]
 congr 1
 funext c
 rw[List.map_map]
 congr 2
 funext t
 simp
theorem run_lev (a b:List UInt8) (m:Nat):run a b [] m=lev a b m:=by simp[run,lev]
theorem run_le (a b s:List UInt8) (d:Nat):(run a b s d).length≤26^d:=by
 unfold run
 refine Nat.le_trans (List.length_filter_le _ _) ?_
 rw[List.length_map,texts_length];exact Nat.le_refl _
/- whether a text that begins so may fit at all -/
def mayN (a b s:List UInt8) (d:Nat):Bool:=
 (!(bytesLess (s++rep d 122) a||(s++rep d 122)==a))&&(b.isEmpty||bytesLess (s++rep d 97) b)
theorem run_none {a b s:List UInt8} {d:Nat} (h:mayN a b s d=false):run a b s d=[]:=by
 unfold run
 rw[List.filter_eq_nil_iff]
 intro t ht hst
 obtain⟨r,hr,rfl⟩:=List.mem_map.1 ht
 obtain⟨hl,hal⟩:=texts_flat d r hr
 simp only[stem,inside,Bool.and_eq_true,Bool.not_eq_true',Bool.or_eq_false_iff,beq_eq_false_iff_ne] at hst
 obtain⟨⟨⟨⟨h1,h2⟩,h3⟩,_⟩,_⟩:=hst
 have hat:=less_total h1 h2
 have hlow:bytesLess (s++r) (s++rep d 97)=false:=by rw[less_same,←hl];exact rep_low r hal
 have hhigh:bytesLess (s++rep d 122) (s++r)=false:=by rw[less_same,←hl];exact rep_high r hal
 simp only[mayN,Bool.and_eq_false_iff,Bool.not_eq_false',Bool.or_eq_true,beq_iff_eq,Bool.or_eq_false_iff] at h
 rcases h with h | ⟨h4,h5⟩
 ·have hlt:=lt_le hat hhigh
  rcases h with h | h
  ·rw[less_asymm h] at hlt;cases hlt
  ·rw[h,less_irrefl] at hlt;cases hlt
 ·rw[h4] at h3
  have h6:bytesLess (s++r) b=true:=by simpa using h3
  have:=le_lt hlow h6
  rw[this] at h5;cases h5
/- whether all texts that begin so fit -/
def allN (a b s:List UInt8) (d:Nat):Bool:=
 (!(bytesLess (s++rep d 97) a||(s++rep d 97)==a))&&(b.isEmpty||(bytesLess (s++rep d 122) b && !(s.isPrefixOf b)))
theorem last_count (d:Nat):((texts (d+1)).filter fun r=>r.getLast? !=some 97).length=25*26^d:=by
 have hx:∀s:List UInt8,((ext s).filter fun r=>r.getLast? !=some 97).length=25:=by
  intro s
  unfold ext
  rw[List.filter_map,List.length_map]
  have e:(fun r:List UInt8=>r.getLast? !=some 97) ∘ (fun c=>s++[c])=fun c:UInt8=>c !=97:=by
   funext c
   rw[Bool.eq_iff_iff]
   simp[Function.comp,bne_iff_ne]
  rw[e]
  decide +kernel
 have h:∀l:List (List UInt8),((exts l).filter fun r=>r.getLast? !=some 97).length=25*l.length:=by
  intro l
  induction l with
  | nil=>rfl
  | cons s l ih=>
   have e:exts (s::l)=ext s++exts l:=by simp[exts]
   rw[e,List.filter_append,List.length_append,hx,ih,List.length_cons];omega
 show((exts (texts d)).filter fun r=>r.getLast? !=some 97).length=_
 rw[h,texts_length]
theorem run_full {a b s:List UInt8} {d:Nat} (h:allN a b s (d+1)=true):(run a b s (d+1)).length=25*26^d:=by
 rw[←last_count d]
 unfold run
 rw[List.filter_map,List.length_map]
 congr 1
 refine List.filter_congr ?_
 intro r hr
 obtain⟨hl,hal⟩:=texts_flat (d+1) r hr
 have hne:r≠[]:=by intro e;rw[e] at hl;simp at hl
 have hlow:bytesLess (s++r) (s++rep (d+1) 97)=false:=by rw[less_same,←hl];exact rep_low r hal
 have hhigh:bytesLess (s++rep (d+1) 122) (s++r)=false:=by rw[less_same,←hl];exact rep_high r hal
 simp only[allN,Bool.and_eq_true,Bool.not_eq_true',Bool.or_eq_false_iff,beq_eq_false_iff_ne,Bool.or_eq_true] at h
 obtain⟨⟨h1,h2⟩,h3⟩:=h
 have hat:=lt_le (less_total h1 h2) hlow
 have e1:inside (s++r) a b=true:=by
  simp only[inside,Bool.and_eq_true,Bool.not_eq_true',Bool.or_eq_false_iff,beq_eq_false_iff_ne,Bool.or_eq_true]
  refine⟨⟨less_asymm hat, ?_⟩, ?_⟩
  ·intro e;rw[e,less_irrefl] at hat;cases hat
  ·rcases h3 with h3 | h3
   ·exact Or.inl h3
   ·exact Or.inr (le_lt hhigh h3.1)
 have e2:(s++r).isPrefixOf b=false:=by
  rw[Bool.eq_false_iff]
  intro hp
  rw[List.isPrefixOf_iff_prefix] at hp
  rcases h3 with h3 | h3
  ·have hb:b=[]:=by simpa using h3
   rw[hb] at hp
   have:=List.prefix_nil.1 hp
   simp at this;exact hne this.2
  ·have hsb:s.isPrefixOf b=true:=List.isPrefixOf_iff_prefix.2 (List.IsPrefix.trans (List.prefix_append s r) hp)
   rw[hsb] at h3;simp at h3
 have e3:(s++r).getLast? =r.getLast? :=by
  cases r with
  | nil=>exact absurd rfl hne
  | cons x q=>
   rw[List.getLast?_append]
   cases h:(x::q).getLast? with
   | none=>simp at h
   | some y=>rfl
 show stem (s++r) a b=_
 simp only[stem,e1,e2,e3]
 simp
/- letter by letter: so many with the first j letters -/
def upto (a b s:List UInt8) (d j:Nat):Nat:=((letters.take j).flatMap fun c=>run a b (s++[c]) d).length
theorem upto_zero (a b s:List UInt8) (d:Nat):upto a b s d 0=0:=by simp[upto]
theorem upto_all (a b s:List UInt8) (d:Nat):upto a b s d 26=(run a b s (d+1)).length:=by
 unfold upto
 rw[run_succ,List.take_of_length_le (by rw[letters_length];exact Nat.le_refl _)]
theorem letters_get (j:Nat) (hj:j<26):letters[j]? =some (UInt8.ofNat (97+j)):=by simp[letters,hj]
theorem upto_succ (a b s:List UInt8) (d j:Nat) (hj:j<26):upto a b s d (j+1)=upto a b s d j+(run a b (s++[UInt8.ofNat (97+j)]) d).length:=by
 unfold upto
 rw[List.take_add_one,letters_get j hj,List.flatMap_append,List.length_append]
 simp
theorem upto_mono (a b s:List UInt8) (d j:Nat) (hj:j≤26):upto a b s d j≤(run a b s (d+1)).length:=by
 rw[←upto_all]
 unfold upto
 have e:letters.take 26=letters.take j++(letters.take 26).drop j:=by
  have:=(List.take_append_drop j (letters.take 26)).symm
  rwa [List.take_take,Nat.min_eq_left hj] at this
 rw[e,List.flatMap_append,List.length_append]
 omega
/- the k-th lies with the letter at which the count passes k -/
theorem run_at (a b s:List UInt8) (d j k:Nat) (hj:j<26) (h1:upto a b s d j≤k) (h2:k<upto a b s d (j+1)):
  (run a b s (d+1))[k]? =(run a b (s++[UInt8.ofNat (97+j)]) d)[k-upto a b s d j]? :=by
 have e:letters=letters.take j++(UInt8.ofNat (97+j)::letters.drop (j+1)):=by
  have h3:j<letters.length:=by rw[letters_length];exact hj
  have h4:letters[j]=UInt8.ofNat (97+j):=by
   have:=letters_get j hj
   rw[List.getElem?_eq_getElem h3] at this
   exact Option.some.inj this
  rw[←h4,←List.drop_eq_getElem_cons h3,List.take_append_drop]
 rw[upto_succ _ _ _ _ _ hj] at h2
 rw[run_succ]
 conv=>lhs;rw[e]
 rw[List.flatMap_append,List.flatMap_cons]
 rw[List.getElem?_append_right h1,List.getElem?_append_left]
 ·rfl
 ·show k-upto a b s d j<_
  omega
end Pm
end Go.Proofs.YtlmdchpbpgcfmaaGreatDoor
/- What the reference's small functions answer: Place, Who, Two, begins, fits, may. -/
namespace Go.Proofs.YtlmdchpbpgcfmaaGreatDoor
namespace Qa
open Go.RowKit Pa Pb Pc Pd Pe
theorem begins_any (s t:ByteArray) (w:World) (hs:s.size≤maxLen) (ht:t.size≤maxLen):
  Calls Tryz.prog 218 #[.string s,.string t] w fun e w'=>e=.returned (.bool (s.toList.isPrefixOf t.toList))∧w'=w:=by
 unfold maxLen at ht hs
 go_enter Tryz.func218,Tryz.ntmps218
 go_wp2
 all_goals
  go_ret
  refine⟨ret_bool ?_,rfl⟩
  first | exact pre_eq t s (by assumption) | exact pre_no t s (by assumption)
/- fits, for a text that is not empty, and stem -/
def fit (s a b:List UInt8):Bool:=(!(Op.bytesLess s a||s==a))&&(b.isEmpty||(Op.bytesLess s b && !(s.isPrefixOf b)))
theorem fit_stem (s a b:List UInt8) (h:s≠[]):Pm.stem s a b=(fit s a b&&(s.getLast? !=some 97)):=by
 unfold Pm.stem Pm.inside fit
 cases hb:b.isEmpty
 ·cases h1:(!(Op.bytesLess s a||s==a))<;>cases h2:Op.bytesLess s b<;>cases h3:s.isPrefixOf b<;>cases h4:(s.getLast? !=some 97)<;>rfl
 ·have:b=[]:=by simpa using hb
  subst this
  have h3:s.isPrefixOf []=false:=by cases s;exact absurd rfl h;rfl
  rw[h3]
  cases h1:(!(Op.bytesLess s a||s==a))<;>cases h4:(s.getLast? !=some 97)<;>rfl
theorem fits_any (s a b:ByteArray) (w:World) (hs:s.size≤maxLen) (hb:b.size≤maxLen):
  Calls Tryz.prog 217 #[.string s,.string a,.string b] w fun e w'=>e=.returned (.bool (fit s.toList a.toList b.toList))∧w'=w:=by
 cases h1:Op.bytesLess s.toList a.toList<;>cases h2:(s.toList==a.toList)<;>cases h3:b.toList.isEmpty<;>cases h4:Op.bytesLess s.toList b.toList<;>cases h5:s.toList.isPrefixOf b.toList
 all_goals
  have H5:=z9 h5
  clear h5
  go_enter Tryz.func217,Tryz.ntmps217
  go_wp2_with (go_at_call 218;refine(begins_any _ _ _ hs hb).mono ?_;rintro e w' ⟨rfl,hw⟩;have hw2:=hw.symm;subst hw2;clear hw;rw[H5.out])
  go_ret
  exact⟨ret_bool (by unfold fit;rw[h1,h2,h3,h4,H5.out]<;>rfl),rfl⟩
theorem snoc_toList (x:ByteArray) (c:UInt8):(x++(⟨#[c]⟩:ByteArray)).toList=x.toList++[c]:=by
 rw[ByteArray.toList_eq,ByteArray.toList_eq]
 show(x++(⟨#[c]⟩:ByteArray)).data.toList=_
 rw[ByteArray.data_append]
 simp
theorem rep_succ (d:Nat) (c:UInt8):Pm.rep (d+1) c=Pm.rep d c++[c]:=by
 unfold Pm.rep;rw[List.replicate_succ']
theorem may_any (s a b:ByteArray) (d:Nat) (n:Int) (w:World) (hn:n=s.size+d) (h20:s.size+d≤20):
  Calls Tryz.prog 216 #[.string s,.int .i64 n,.string a,.string b] w fun e w'=>e=.returned (.bool (Pm.mayN a.toList b.toList s.toList d))∧w'=w:=by
 have HN:=z9 hn
 have hn0:0≤n:=by omega
 have hn20:n≤20:=by omega
 clear hn
 go_enter Tryz.func216,Tryz.ntmps216
 go_wp2
 go_loop [9,10] (fun lo hi=>∃(j:Nat) (L H:ByteArray),j≤d∧lo=.string L∧hi=.string H∧L.size=s.size+j∧H.size=s.size+j∧Hid (L.toList=s.toList++Pm.rep j 97)∧Hid (H.toList=s.toList++Pm.rep j 122))
  (fun lo _=>20-(match lo with | .string L=>L.size | _=>0))
 case atStart=>exact⟨0,s,s,by omega,rfl,rfl,rfl,rfl,by unfold Hid Pm.rep;simp,by unfold Hid Pm.rep;simp⟩
 case round=>
  obtain⟨j,L,H,hj,rfl,rfl,hL,hH,HL,HH⟩:=hrel
  have hLn:L.size≤20:=by omega
  have hHn:H.size≤20:=by omega
  by_cases hlt:j<d
  ·have hc:(L.size:Int)<n:=by have:=HN.out;omega
   have HLs:=z9 hL
   have HHs:=z9 hH
   have hL1:(L++(⟨#[97]⟩:ByteArray)).size=L.size+1:=by rw[ByteArray.size_append];rfl
   have hH1:(H++(⟨#[122]⟩:ByteArray)).size=H.size+1:=by rw[ByteArray.size_append];rfl
   have HL1:=z9 hL1
   have HH1:=z9 hH1
   clear hL hH hL1 hH1
   go_wp2
   go_round
   case rel=>exact⟨j+1,_,_,by omega,rfl,rfl,by rw[HL1.out,HLs.out];omega,by rw[HH1.out,HHs.out];omega,by unfold Hid;rw[snoc_toList,HL.out,rep_succ,List.append_assoc],by unfold Hid;rw[snoc_toList,HH.out,rep_succ,List.append_assoc]⟩
   case measure=>
    have h2:=HLs.out
    show 20-(L++(⟨#[97]⟩:ByteArray)).size<20-L.size
    rw[HL1.out]
    omega
  ·have hjd:j=d:=by omega
   have hc:¬(L.size:Int)<n:=by have:=HN.out;omega
   have HV:Hid (Pm.mayN a.toList b.toList s.toList d=((!(Op.bytesLess H.toList a.toList||H.toList==a.toList))&&(b.toList.isEmpty||Op.bytesLess L.toList b.toList))):=by
    unfold Hid Pm.mayN;rw[HL.out,HH.out,hjd]
   clear hL hH hjd
   cases h1:Op.bytesLess H.toList a.toList<;>cases h2:(H.toList==a.toList)<;>cases h3:b.toList.isEmpty
   all_goals
    go_wp2
    go_ret
    exact⟨ret_bool (by rw[HV.out,h1,h2,h3]<;>rfl),rfl⟩
end Qa
end Go.Proofs.YtlmdchpbpgcfmaaGreatDoor
/- A text as bytes, one byte more behind it, as a text again: 'x := []byte(s); x = append(x, c); string(x)'. -/
namespace Go.Proofs.YtlmdchpbpgcfmaaGreatDoor
namespace Qb
open Go.RowKit Pa Pb Pc Pd Pe Qa
theorem info5:(Tryz.prog.info? 5).map (fun i=>(i.zero,i.size,i.bytes))=some (some (.int .u8 0),1,1):=by kernel_rfl
def bc (l:List UInt8):List Value:=l.map fun x=>Value.int .u8 (x.toNat:Int)
theorem bc_length (l:List UInt8):(bc l).length=l.length:=by simp[bc]
theorem bc_get {l:List UInt8} {j:Nat} {u:Value} (h:(bc l)[j]? =some u):∃hj:j<l.length,u=.int .u8 (l[j].toNat:Int):=by
 simp only[bc,List.getElem?_map,Option.map_eq_some_iff] at h
 obtain⟨x,hx,rfl⟩:=h
 obtain⟨hj,rfl⟩:=List.getElem?_eq_some_iff.1 hx
 exact⟨hj,rfl⟩
/- a slice of bytes, of which nothing is asked but its cells, reads as a text, in each later world too -/
def Reads (v:Value) (T:ByteArray) (w:World):Prop:=
 ∀w2,Below w.heap.size w w2→(convert 178 9 v).run Tryz.prog w2=.ok (.string T) w2
theorem reads_of {g cap:Nat} {l:List UInt8} {w:World} (hg:g<w.heap.size) (hc:∀j (hj:j<l.length),w.cell? ⟨g,j,none⟩=some (.int .u8 (l[j].toNat:Int))):
  Reads (.slice (some ⟨g,0,none⟩) l.length cap) ⟨l.toArray⟩ w:=by
 intro w2 hb
 refine run_convert_bytes_back (P:=Tryz.prog) w2 178 9 5 ⟨g,0,none⟩ cap l Tryz.underlying178 Tryz.underlying5 Tryz.underlying9 ?_
 intro j hj
 have e2:(⟨g,0,none⟩:Addr).add j=⟨g,j,none⟩:=by
  unfold Addr.add
  by_cases h:j=0<;>simp[h]
 rw[e2,hb.cell (p:=⟨g,j,none⟩) hg]
 exact hc j hj
theorem wpList_push {ops:Array Oper} {rest:List Oper} {o:Oper} {a:Act} {Q:Exit→Act→World→Prop} (w:World) (hgd:o.guard=none) (sO xO:Operand)
  (ho:o.op=.call { callee:=.builtin .append,args:=#[sO,xO],argTypes:=#[178,178] })
  (B g0 h0 C:Nat) (s:List UInt8) (c:UInt8) (hs:a.eval sO=.slice (some ⟨g0,0,none⟩) s.length C) (hx:a.eval xO=.slice (some ⟨h0,0,none⟩) 1 1)
  (hs1:s.length≤1000) (hB:B≤g0) (hg0:g0<w.heap.size) (hh0:h0≠g0)
  (hcell:∀j (hj:j<s.length),w.cell? ⟨g0,j,none⟩=some (.int .u8 (s[j].toNat:Int)))
  (hspare:s.length+1≤C→(w.cell? ⟨g0,s.length,none⟩).isSome=true∧w.frozen? ⟨g0,s.length,none⟩=false)
  (hnew:w.cell? ⟨h0,0,none⟩=some (.int .u8 (c.toNat:Int))) (T:ByteArray) (hT:T=⟨(s++[c]).toArray⟩)
  (h:∀g cap w',Below B w w'→Reads (.slice (some ⟨g,0,none⟩) (s.length+1) cap) T w'→wpList Tryz.prog ops Q rest (a.put o.dst (.slice (some ⟨g,0,none⟩) (s.length+1) cap)) w'):
  wpList Tryz.prog ops Q (o::rest) a w:=by
 subst hT
 obtain⟨i0,hi,hz0,hz1,hz2⟩:=info_parts info5
 have hnews:∀j u,(bc [c])[j]? =some u→w.cell? ((⟨h0,0,none⟩:Addr).add j)=some u:=by
  intro j u hu
  obtain⟨hj,rfl⟩:=bc_get hu
  have hj0:j=0:=by simpa using hj
  subst hj0
  simpa[Addr.add] using hnew
 refine wpList_append_arg w hgd sO xO 178 ho 5 i0 (.int .u8 0) 1 1 Tryz.underlying178 hi hz0 hz1 hz2 rfl (by decide) g0 0 s.length C (bc s) hs (by rw[bc_length];omega) ?_ ⟨h0,0,none⟩ 1 1 (bc [c]) hx rfl hnews ?_ ?_ (by unfold maxLen;omega) (by omega) ?_ ?_
 ·intro j u hu
  obtain⟨hj,rfl⟩:=bc_get hu
  rw[Nat.zero_add];exact hcell j hj
 ·intro u hu
  simp[bc] at hu
  subst hu;rfl
 ·intro hr j hj
  have hj0:j=0:=by rw[bc_length] at hj;simpa using hj
  subst hj0
  simp only[Nat.zero_add,Nat.mul_one,Nat.add_zero]
  exact hspare hr
 ·intro hr
  refine h g0 C _ ?_ ?_
  ·have e:w.setCells g0 (0+s.length*1) (bc [c])=w.setCell ⟨g0,0+s.length*1,none⟩ (.int .u8 (c.toNat:Int)):=rfl
   rw[e]
   exact(Below.refl B w).setCell (p:=⟨g0,0+s.length*1,none⟩) hB _
  ·have hrd:=reads_of (g:=g0) (cap:=C) (l:=s++[c]) (w:=w.setCells g0 (0+s.length*1) (bc [c])) ?_ ?_
   ·simpa using hrd
   ·have e:w.setCells g0 (0+s.length*1) (bc [c])=w.setCell ⟨g0,0+s.length*1,none⟩ (.int .u8 (c.toNat:Int)):=rfl
    rw[e];simpa using hg0
   ·intro j hj
    rw[Nat.zero_add,Nat.mul_one]
    by_cases hlt:j<s.length
    ·rw[World.cell?_setCells_out g0 (bc [c]) s.length w ⟨g0,j,none⟩ (fun _ _=>Or.inl hlt),hcell j hlt,List.getElem_append_left hlt]
    ·have hj2:j=s.length:=by simp at hj;omega
     subst hj2
     have:=World.cell?_setCells_in g0 (bc [c]) s.length w (fun k hk=>by
      have hk0:k=0:=by rw[bc_length] at hk;simpa using hk
      subst hk0
      exact(hspare hr).1) 0 (by simp[bc])
     rw[Nat.add_zero] at this
     rw[this]
     simp[bc]
 ·intro hg v' w' hown hgr
  rcases hown.2 with⟨_,h0'⟩ | ⟨g,cap,cur,rfl,hbg,hgg,_⟩
  ·omega
  ·refine h g cap w' ⟨hgr.os,hgr.tape,hgr.output,hgr.size,fun k hk=>hgr.block k (by omega) (by simp)⟩ ?_
   have hglt:g<w'.heap.size:=by
    rcases Nat.lt_or_ge g w'.heap.size with h2 | h2
    ·exact h2
    ·rw[Array.getElem?_eq_none h2] at hgg;cases hgg
   have hrd:=reads_of (g:=g) (cap:=cap) (l:=s++[c]) (w:=w') hglt ?_
   ·simpa using hrd
   ·intro j hj
    have hcs:=hown.cells (g:=g) rfl j (.int .u8 ((s++[c])[j].toNat:Int)) (by
     have e:bc s++bc [c]=bc (s++[c]):=by simp[bc]
     rw[e,bc,List.getElem?_map,List.getElem?_eq_getElem hj];rfl)
    have e2:(⟨g,0,none⟩:Addr).add j=⟨g,j,none⟩:=by
     unfold Addr.add
     by_cases h:j=0<;>simp[h]
    rw[e2] at hcs
    exact hcs
/- what '[]byte(s)' and the one byte's own block hold -/
theorem laid_cell (w:World) (s:ByteArray) (C:Nat) (x:Value) (f:Nat × Nat) (j:Nat) (hj:j<s.toList.length):
  (((w.alloc (.cells (bytesRow s C) 5 f)).alloc (.cells #[x] 5)).drew).cell? ⟨w.heap.size,j,none⟩=some (.int .u8 ((s.toList[j]).toNat:Int)):=by
 have e:(((w.alloc (.cells (bytesRow s C) 5 f)).alloc (.cells #[x] 5)).drew).cell? ⟨w.heap.size,j,none⟩=(w.alloc (.cells (bytesRow s C) 5 f)).cell? ⟨w.heap.size,j,none⟩:=by
  rw[World.cell?_drew]
  exact World.cell?_alloc_lt _ _ ⟨w.heap.size,j,none⟩ (by simp)
 rw[e]
 have hb:(w.alloc (.cells (bytesRow s C) 5 f)).heap[w.heap.size]? =some (.cells (bytesRow s C) 5 f):=heap_alloc_new w _
 have hl:=len_eq s
 have hj2:j<s.data.size:=by rw[hl] at hj;exact hj
 simp only[World.cell?,hb]
 simp only[bytesRow,Array.getElem?_append,Array.size_map,ByteArray.toList_eq,Array.getElem_toList]
 rw[if_pos hj2,Array.getElem?_map,Array.getElem?_eq_getElem hj2]
 rfl
theorem laid_spare (w:World) (s:ByteArray) (C:Nat) (x:Value) (hr:s.toList.length+1≤C):
  ((((w.alloc (.cells (bytesRow s C) 5 ((bytesRow s C).size,(bytesRow s C).size+1))).alloc (.cells #[x] 5)).drew).cell? ⟨w.heap.size,s.toList.length,none⟩).isSome=true∧
  (((w.alloc (.cells (bytesRow s C) 5 ((bytesRow s C).size,(bytesRow s C).size+1))).alloc (.cells #[x] 5)).drew).frozen? ⟨w.heap.size,s.toList.length,none⟩=false:=by
 have hl:=len_eq s
 have hsz:(bytesRow s C).size=C:=by
  have:s.data.size=s.size:=rfl
  simp[bytesRow,this];omega
 constructor
 ·rw[World.cell?_drew,World.cell?_alloc_lt _ _ ⟨w.heap.size,s.toList.length,none⟩ (by simp)]
  have hb:(w.alloc (.cells (bytesRow s C) 5 ((bytesRow s C).size,(bytesRow s C).size+1))).heap[w.heap.size]? =some (.cells (bytesRow s C) 5 ((bytesRow s C).size,(bytesRow s C).size+1)):=heap_alloc_new w _
  simp only[World.cell?,hb]
  rw[Array.getElem?_eq_getElem (show s.toList.length<(bytesRow s C).size by omega)]
  rfl
 ·rw[World.frozen?_drew,World.frozen?_alloc_old _ _ ⟨w.heap.size,s.toList.length,none⟩ (by simp)]
  have hb:(w.alloc (.cells (bytesRow s C) 5 ((bytesRow s C).size,(bytesRow s C).size+1))).heap[w.heap.size]? =some (.cells (bytesRow s C) 5 ((bytesRow s C).size,(bytesRow s C).size+1)):=heap_alloc_new w _
  simp only[World.frozen?,hb]
  simp
  omega
theorem laid_new (w:World) (A:Obj) (x:Value):(((w.alloc A).alloc (.cells #[x] 5)).drew).cell? ⟨w.heap.size+1,0,none⟩=some x:=by
 rw[World.cell?_drew,World.cell?_alloc_at _ _ _ _ (by simp)];rfl
theorem laid_below (w:World) (A:Obj) (x:Value):Below w.heap.size w (((w.alloc A).alloc (.cells #[x] 5)).drew):=
 (((Below.refl _ _).alloc (Nat.le_refl _) _).alloc (by simp) _).drew
/- the whole, for a walk: behind '[]byte(s)' and the block of the one byte -/
theorem wpList_push_laid {ops:Array Oper} {rest:List Oper} {o:Oper} {a:Act} {Q:Exit→Act→World→Prop} (wr:World) (hgd:o.guard=none) (sO xO:Operand)
  (ho:o.op=.call { callee:=.builtin .append,args:=#[sO,xO],argTypes:=#[178,178] })
  (B:Nat) (s:ByteArray) (c:Int) (cc:UInt8) (C:Nat) (hs:a.eval sO=.slice (some ⟨wr.heap.size,0,none⟩) s.size C) (hx:a.eval xO=.slice (some ⟨wr.heap.size+1,0,none⟩) 1 1)
  (hs1:s.size≤1000) (hB:B≤wr.heap.size) (hc:c=(cc.toNat:Int)) (T:ByteArray) (hT:T=⟨(s.toList++[cc]).toArray⟩)
  (h:∀g cap w',Below B wr w'→Reads (.slice (some ⟨g,0,none⟩) (s.size+1) cap) T w'→wpList Tryz.prog ops Q rest (a.put o.dst (.slice (some ⟨g,0,none⟩) (s.size+1) cap)) w'):
  wpList Tryz.prog ops Q (o::rest) a (((wr.alloc (.cells (bytesRow s C) 5 ((bytesRow s C).size,(bytesRow s C).size+1))).alloc (.cells #[.int .u8 c] 5)).drew):=by
 have hl:=len_eq s
 refine wpList_push _ hgd sO xO ho B wr.heap.size (wr.heap.size+1) C s.toList cc (by rw[hl];exact hs) hx (by omega) hB (by simp;omega) (by omega) (fun j hj=>laid_cell wr s C _ _ j hj) (fun hr=>laid_spare wr s C _ hr) (by rw[hc];exact laid_new wr _ _) T hT ?_
 intro g cap w' hb hrd
 rw[hl] at hrd ⊢
 exact h g cap w' (((laid_below wr _ _).mono hB).trans hb) hrd
end Qb
end Go.Proofs.YtlmdchpbpgcfmaaGreatDoor
/- What the reference's many answers: how many stems of n letters begin so. -/
namespace Go.Proofs.YtlmdchpbpgcfmaaGreatDoor
namespace Qc
open Go.RowKit Pa Pb Pc Pd Pe Qa Qb
theorem many_no (a b s:ByteArray) (n d:Nat) (w:World) (hn:s.size+d=n) (hn11:n≤11) (h:Pm.mayN a.toList b.toList s.toList d=false):
  Calls Tryz.prog 205 #[.string s,.int .i64 n,.string a,.string b] w fun e w'=>e=.returned (.int .i64 ((Pm.run a.toList b.toList s.toList d).length:Int))∧w'=w:=by
 have H0:Hid ((Pm.run a.toList b.toList s.toList d).length=0):=by unfold Hid;rw[Pm.run_none h];rfl
 have H:=z9 h
 have HN:Hid (((n:Nat):Int)=s.size+d):=by unfold Hid;omega
 clear h
 go_enter Tryz.func205,Tryz.ntmps205
 go_wp2_with (go_at_call 216;refine(may_any s a b d _ _ HN.out (by omega)).mono ?_;rintro e w' ⟨rfl,hw⟩;have hw2:=hw.symm;subst hw2;clear hw;rw[H.out])
 go_ret
 exact⟨ret_int (by rw[H0.out];rfl),rfl⟩
theorem many_zero (a b s:ByteArray) (n:Nat) (w:World) (hb:b.size≤maxLen) (hn:s.size=n) (hn1:1≤n) (hn11:n≤11) (h:Pm.mayN a.toList b.toList s.toList 0=true):
  Calls Tryz.prog 205 #[.string s,.int .i64 n,.string a,.string b] w fun e w'=>e=.returned (.int .i64 ((Pm.run a.toList b.toList s.toList 0).length:Int))∧w'=w:=by
 have hne:s.toList≠[]:=by intro e;have:=len_eq s;rw[e] at this;simp at this;omega
 have hlast:=last_ne s (by omega)
 have hfs:=fit_stem s.toList a.toList b.toList hne
 subst hn
 have HN:Hid (((s.size:Nat):Int)=s.size+(0:Nat)):=by unfold Hid;omega
 have H:=z9 h
 have hsm:s.size≤maxLen:=by unfold maxLen;omega
 have hbq:((s.size:Int)==(s.size:Int))=true:=by simp
 cases hf:fit s.toList a.toList b.toList
 ·have H0:Hid ((Pm.run a.toList b.toList s.toList 0).length=0):=by unfold Hid;rw[Pm.run_zero,hfs,hf];rfl
  have HF:=z9 hf
  clear h hf hfs hlast hne
  go_enter Tryz.func205,Tryz.ntmps205
  go_wp2_with (first | (go_at_call 216;refine(may_any s a b 0 _ _ HN.out (by omega)).mono ?_;rintro e w' ⟨rfl,hw⟩;have hw2:=hw.symm;subst hw2;clear hw;rw[H.out]) | (go_at_call 217;refine(fits_any s a b _ hsm hb).mono ?_;rintro e w' ⟨rfl,hw⟩;have hw2:=hw.symm;subst hw2;clear hw;rw[HF.out]))
  go_ret
  exact⟨ret_int (by rw[H0.out];rfl),rfl⟩
 ·have hq0:s.size-1<s.size:=by omega
  cases hq:(((s[s.size-1]'hq0).toNat:Int) !=97)
  ·have H0:Hid ((Pm.run a.toList b.toList s.toList 0).length=0):=by unfold Hid;rw[Pm.run_zero,hfs,hf,hlast,hq];rfl
   have HF:=z9 hf
   clear h hf hfs hlast hne
   go_enter Tryz.func205,Tryz.ntmps205
   go_wp2_with (first | (go_at_call 216;refine(may_any s a b 0 _ _ HN.out (by omega)).mono ?_;rintro e w' ⟨rfl,hw⟩;have hw2:=hw.symm;subst hw2;clear hw;rw[H.out]) | (go_at_call 217;refine(fits_any s a b _ hsm hb).mono ?_;rintro e w' ⟨rfl,hw⟩;have hw2:=hw.symm;subst hw2;clear hw;rw[HF.out]))
   go_ret
   exact⟨ret_int (by rw[H0.out];rfl),rfl⟩
  ·have H0:Hid ((Pm.run a.toList b.toList s.toList 0).length=1):=by unfold Hid;rw[Pm.run_zero,hfs,hf,hlast,hq];rfl
   have HF:=z9 hf
   clear h hf hfs hlast hne
   go_enter Tryz.func205,Tryz.ntmps205
   go_wp2_with (first | (go_at_call 216;refine(may_any s a b 0 _ _ HN.out (by omega)).mono ?_;rintro e w' ⟨rfl,hw⟩;have hw2:=hw.symm;subst hw2;clear hw;rw[H.out]) | (go_at_call 217;refine(fits_any s a b _ hsm hb).mono ?_;rintro e w' ⟨rfl,hw⟩;have hw2:=hw.symm;subst hw2;clear hw;rw[HF.out]))
   go_ret
   exact⟨ret_int (by rw[H0.out];rfl),rfl⟩
end Qc
end Go.Proofs.YtlmdchpbpgcfmaaGreatDoor
/- What the reference's many answers, letter by letter. -/
namespace Go.Proofs.YtlmdchpbpgcfmaaGreatDoor
namespace Qd
open Go.RowKit Pa Pb Pc Pd Pe Qa Qb Qc
def Said (a b:ByteArray) (n d:Nat):Prop:=∀(s:ByteArray) (w:World),s.size+d=n→
 Calls Tryz.prog 205 #[.string s,.int .i64 n,.string a,.string b] w fun e w'=>e=.returned (.int .i64 ((Pm.run a.toList b.toList s.toList d).length:Int))∧Below w.heap.size w w'
theorem pow26 (k:Nat) (h:k≤11):26^k≤3670344486987776:=by
 have:26^k≤26^11:=Nat.pow_le_pow_right (by omega) h
 simpa using this
theorem pow26b (k:Nat) (h:k≤10):26^k≤141167095653376:=by
 have:26^k≤26^10:=Nat.pow_le_pow_right (by omega) h
 simpa using this
theorem pow26i (k:Nat) (h:k≤10):(26:Int)^k≤141167095653376:=by
 have e:=pow26b k h
 have e3:((26^k:Nat):Int)=(26:Int)^k:=Int.natCast_pow 26 k
 rw[←e3]
 omega
/- the ways of the test, in the walk's own forms: all fit, or not -/
theorem all_ways {a b s L H:List UInt8} {d:Nat} (hL:L=s++Pm.rep d 97) (hH:H=s++Pm.rep d 122):
  (Pm.allN a b s d=true∧((Op.bytesLess L a=false∧(L==a)=false∧b.isEmpty=true)∨(Op.bytesLess L a=false∧(L==a)=false∧b.isEmpty=false∧Op.bytesLess H b=true∧s.isPrefixOf b=false)))∨
  (Pm.allN a b s d=false∧((Op.bytesLess L a=true)∨(Op.bytesLess L a=false∧(L==a)=true)∨(Op.bytesLess L a=false∧(L==a)=false∧b.isEmpty=false∧Op.bytesLess H b=false)∨(Op.bytesLess L a=false∧(L==a)=false∧b.isEmpty=false∧Op.bytesLess H b=true∧s.isPrefixOf b=true))):=by
 subst hL;subst hH
 unfold Pm.allN
 generalize Op.bytesLess (s++Pm.rep d 97) a=x1
 generalize (s++Pm.rep d 97==a)=x2
 generalize b.isEmpty=x3
 generalize Op.bytesLess (s++Pm.rep d 122) b=x4
 generalize s.isPrefixOf b=x5
 cases x1<;>cases x2<;>cases x3<;>cases x4<;>cases x5<;>simp
theorem many_succ (a b:ByteArray) (n d:Nat) (hb:b.size≤maxLen) (hn11:n≤11) (ih:Said a b n d) (s:ByteArray) (w:World) (hn:s.size+(d+1)=n) (h:Pm.mayN a.toList b.toList s.toList (d+1)=true):
  Calls Tryz.prog 205 #[.string s,.int .i64 n,.string a,.string b] w fun e w'=>e=.returned (.int .i64 ((Pm.run a.toList b.toList s.toList (d+1)).length:Int))∧Below w.heap.size w w':=by
 have HN:Hid (((n:Nat):Int)=s.size+((d+1:Nat):Nat)):=by unfold Hid;omega
 have H:=z9 h
 have hsm:s.size≤maxLen:=by unfold maxLen;omega
 have hne:((s.size:Int)==(n:Int))=false:=by rw[beq_eq_false_iff_ne];omega
 have HI:=z9 ih
 have HNn:=z9 hn
 have hs11:s.size≤10:=by omega
 have hsn:s.size+1≤n:=by omega
 clear h ih hn
 go_enter Tryz.func205,Tryz.ntmps205
 go_wp2_with (first | (go_at_call 216;refine(may_any s a b (d+1) _ _ HN.out (by have:=HNn.out;omega)).mono ?_;rintro e w' ⟨rfl,hw⟩;have hw2:=hw.symm;subst hw2;clear hw;rw[H.out]))
 go_loop [10,11] (fun lo hi=>∃(j:Nat) (L H:ByteArray),j≤d+1∧lo=.string L∧hi=.string H∧L.size=s.size+j∧H.size=s.size+j∧Hid (L.toList=s.toList++Pm.rep j 97)∧Hid (H.toList=s.toList++Pm.rep j 122))
  (fun lo _=>20-(match lo with | .string L=>L.size | _=>0))
 case atStart=>exact⟨0,s,s,by omega,rfl,rfl,rfl,rfl,by unfold Hid Pm.rep;simp,by unfold Hid Pm.rep;simp⟩
 case round=>
  obtain⟨j,L,H,hj,rfl,rfl,hL,hH,HL,HH⟩:=hrel
  have hd11:s.size+(d+1)≤11:=by have:=HNn.out;omega
  have hLn:L.size≤20:=by omega
  have hHn:H.size≤20:=by omega
  by_cases hlt:j<d+1
  ·have hc:(L.size:Int)<n:=by have:=HN.out;omega
   have HLs:=z9 hL
   have HHs:=z9 hH
   have HL1:Hid ((L++(⟨#[97]⟩:ByteArray)).size=L.size+1):=by unfold Hid;rw[ByteArray.size_append];rfl
   have HH1:Hid ((H++(⟨#[122]⟩:ByteArray)).size=H.size+1):=by unfold Hid;rw[ByteArray.size_append];rfl
   clear hL hH
   go_wp2
   go_round
   case rel=>exact⟨j+1,_,_,by omega,rfl,rfl,by rw[HL1.out,HLs.out];omega,by rw[HH1.out,HHs.out];omega,by unfold Hid;rw[snoc_toList,HL.out,rep_succ,List.append_assoc],by unfold Hid;rw[snoc_toList,HH.out,rep_succ,List.append_assoc]⟩
   case measure=>
    have h2:=HLs.out
    show 20-(L++(⟨#[97]⟩:ByteArray)).size<20-L.size
    rw[HL1.out]
    omega
  ·have hjd:j=d+1:=by omega
   subst hjd
   have hc:¬(L.size:Int)<n:=by have:=HN.out;omega
   clear hL hH
   rcases all_ways (a:=a.toList) (b:=b.toList) HL.out HH.out with⟨hA,hw⟩ | ⟨hA,hw⟩
   ·have HA:=z9 (Pm.run_full hA)
    clear hA
    have hd10:d≤10:=by omega
    rcases hw with⟨h1,h2,h3⟩ | ⟨h1,h2,h3,h4,h5⟩
    all_goals
     go_wp2_with fail
     refine(begins_any s b _ hsm hb).mono ?_
     rintro e w' ⟨rfl,hw⟩
     have hw2:=hw.symm;subst hw2;clear hw
     first | rw[h5] | skip
     go_wp2_with fail
     go_loop [13,14] (fun v i=>∃(q:Nat) (K:Int),q≤d∧i=.int .i64 ((s.size:Int)+1+q)∧v=.int .i64 K∧0≤K∧K≤3529177391334400∧Hid (K=25*26^q)) (fun _ i=>n-(intOf i).toNat)
     case atStart=>exact⟨0,25,by omega,by simp,rfl,by omega,by omega,by unfold Hid;rfl⟩
     case round=>
      obtain⟨q,K,hq,rfl,rfl,hK0,hK1,HK⟩:=hrel
      by_cases hql:q<d
      ·have hc2:(s.size:Int)+1+q<n:=by have:=HNn.out;omega
       have HK2:Hid (K*26=25*26^(q+1)):=by unfold Hid;rw[HK.out,Int.pow_succ,Int.mul_assoc]
       have hK3:K*26≤3529177391334400:=by
        rw[HK2.out]
        have e:=pow26i (q+1) (by omega)
        omega
       go_wp2_with fail
       go_round
       case rel=>exact⟨q+1,K*26,by omega,by go_num,rfl,by omega,hK3,HK2⟩
       case measure=>simp[intOf];omega
      ·have hqd:q=d:=by omega
       have hc2:¬(s.size:Int)+1+q<n:=by have:=HNn.out;omega
       have HF:Hid (((Pm.run a.toList b.toList s.toList (d+1)).length:Int)=K):=by
        unfold Hid;rw[HA.out,HK.out,hqd];simp
       clear hqd
       go_wp2_with fail
       go_ret
       exact⟨ret_int HF.out.symm,Below.refl _ _⟩
   ·clear hA
    have HR1:Hid ((Pm.run a.toList b.toList s.toList (d+1)).length≤3670344486987776):=Nat.le_trans (Pm.run_le _ _ _ _) (pow26 _ (by omega))
    rcases hw with h1 | ⟨h1,h2⟩ | ⟨h1,h2,h3,h4⟩ | ⟨h1,h2,h3,h4,h5⟩
    all_goals
     go_wp2_with fail
     refine(begins_any s b _ hsm hb).mono ?_
     rintro e w' ⟨rfl,hw⟩
     have hw2:=hw.symm;subst hw2;clear hw
     go_wp2_with fail
     go_loopw [15,16] (fun v i wr=>∃(c S:Int) (j:Nat),Hid (c=97+j)∧97≤c∧c≤123∧i=.int .i64 c∧v=.int .i64 S∧Hid (S=Pm.upto a.toList b.toList s.toList d j)∧Below w.heap.size w wr) (fun _ i _=>123-(intOf i).toNat)
     case atStart=>exact⟨97,0,0,rfl,by omega,by omega,rfl,rfl,by unfold Hid;rw[Pm.upto_zero];rfl,Below.refl _ _⟩
     case round=>
      obtain⟨c,S,j,Hc,hc0,hc1,rfl,rfl,HS,hbel⟩:=hrel
      by_cases hct:c≤122
      ·have hj26:j<26:=by have:=Hc.out;omega
       have hcv:=fun w=>run_bytes_of_string (P:=Tryz.prog) w 9 178 5 s Tryz.underlying9 Tryz.underlying178 Tryz.underlying5
       have HCC:Hid (c=((UInt8.ofNat (97+j)).toNat:Int)):=by
        unfold Hid
        have:(UInt8.ofNat (97+j)).toNat=97+j:=by simp;omega
        rw[this,Hc.out];omega
       obtain⟨T,hT⟩:∃T:ByteArray,T=⟨(s.toList++[UInt8.ofNat (97+j)]).toArray⟩:=⟨_,rfl⟩
       have HT:=z9 hT
       have HTl:Hid (T.toList=s.toList++[UInt8.ofNat (97+j)]):=by unfold Hid;rw[hT,ByteArray.toList_mk]
       have HTs:Hid (T.size+d=n):=by
        unfold Hid;rw[←len_eq,HTl.out];simp[len_eq];have:=HNn.out;omega
       have hS1:Pm.upto a.toList b.toList s.toList d (j+1)≤(Pm.run a.toList b.toList s.toList (d+1)).length:=Pm.upto_mono _ _ _ _ _ (by omega)
       have hS2:=Pm.upto_succ a.toList b.toList s.toList d j hj26
       rw[←HTl.out] at hS2
       obtain⟨k,hk⟩:∃k:Nat,k=(Pm.run a.toList b.toList T.toList d).length:=⟨_,rfl⟩
       rw[←hk] at hS2
       have HK:=z9 hk
       have HS2:=z9 hS2
       have hS0:0≤S:=by rw[HS.out];omega
       have hSk:S+k≤3670344486987776:=by rw[HS.out];have:=HR1.out;omega
       have hBr:w.heap.size≤wr.heap.size:=hbel.size
       clear hT hk hS1 hS2
       go_wp2_with (at_builtin;refine wpList_push_laid wr rfl (.tmp 88) (.tmp 91) rfl w.heap.size s _ (UInt8.ofNat (97+j)) _ rfl rfl (by omega) hBr HCC.out T HT.out ?_;intro g cap w1 hb1 hrd;have hcv2:=hrd w1 (Below.refl _ _);clear hcv hrd)
       refine(HI.out T _ HTs.out).mono ?_
       rintro e w2 ⟨rfl,hb2⟩
       rw[←HK.out]
       have hb3:Below w.heap.size w w2:=(hbel.trans hb1).trans (hb2.mono (Nat.le_trans hBr hb1.size))
       clear hcv2 hb1 hb2
       go_wp2_with fail
       go_roundw
       case rel=>exact⟨c+1,S+k,j+1,by have:=Hc.out;unfold Hid;omega,by omega,by omega,rfl,rfl,by unfold Hid;rw[HS2.out,HS.out];omega,hb3⟩
       case measure=>simp[intOf];omega
      ·have hj26:j=26:=by have:=Hc.out;omega
       have HF:Hid (((Pm.run a.toList b.toList s.toList (d+1)).length:Int)=S):=by
        unfold Hid;rw[HS.out,hj26,Pm.upto_all]
       clear hj26
       go_wp2_with fail
       go_ret
       exact⟨ret_int HF.out.symm,hbel⟩
theorem many_any (a b:ByteArray) (n:Nat) (hb:b.size≤maxLen) (hn1:1≤n) (hn11:n≤11):∀d,Said a b n d
 | 0=>by
  intro s w hn
  cases h:Pm.mayN a.toList b.toList s.toList 0
  ·refine(many_no a b s n 0 w hn hn11 h).mono ?_
   rintro e w' ⟨rfl,rfl⟩
   exact⟨rfl,Below.refl _ _⟩
  ·refine(many_zero a b s n w hb (by omega) hn1 hn11 h).mono ?_
   rintro e w' ⟨rfl,rfl⟩
   exact⟨rfl,Below.refl _ _⟩
 | d+1=>by
  intro s w hn
  cases h:Pm.mayN a.toList b.toList s.toList (d+1)
  ·refine(many_no a b s n (d+1) w hn hn11 h).mono ?_
   rintro e w' ⟨rfl,rfl⟩
   exact⟨rfl,Below.refl _ _⟩
  ·exact many_succ a b n d hb hn11 (many_any a b n hb hn1 hn11 d) s w hn h
end Qd
end Go.Proofs.YtlmdchpbpgcfmaaGreatDoor
/- What the reference's nth answers: the k-th of the stems of n letters that begin so. -/
namespace Go.Proofs.YtlmdchpbpgcfmaaGreatDoor
namespace Qe
open Go.RowKit Pa Pb Pc Pd Pe Qa Qb Qc Qd
/- which text is sought: said of a beginning, letters to come, and a number -/
def At (a b:List UInt8) (t:List UInt8) (s:List UInt8) (d:Nat) (k:Int):Prop:=∃kk:Nat,k=kk∧(Pm.run a b s d)[kk]? =some t
theorem At.zero {a b t s:List UInt8} {k:Int} (h:At a b t s 0 k):t=s:=by
 obtain⟨kk,_,h⟩:=h
 rw[Pm.run_zero] at h
 cases hst:Pm.stem s a b
 ·rw[hst] at h;simp at h
 ·rw[hst] at h
  cases kk with
  | zero=>simpa using h.symm
  | succ n=>simp at h
theorem At.bound {a b t s:List UInt8} {d:Nat} {k:Int} (h:At a b t s d k):0≤k∧k<(Pm.run a b s d).length:=by
 obtain⟨kk,rfl,h⟩:=h
 have:=(List.getElem?_eq_some_iff.1 h).1
 omega
theorem At.next {a b t s:List UInt8} {d j:Nat} {k:Int} (h:At a b t s (d+1) k) (hj:j<26) (h1:(Pm.upto a b s d j:Int)≤k) (h2:k-Pm.upto a b s d j<(Pm.run a b (s++[UInt8.ofNat (97+j)]) d).length):
  At a b t (s++[UInt8.ofNat (97+j)]) d (k-Pm.upto a b s d j):=by
 obtain⟨kk,rfl,h⟩:=h
 have h3:kk<Pm.upto a b s d (j+1):=by rw[Pm.upto_succ _ _ _ _ _ hj];omega
 have h4:=Pm.run_at a b s d j kk hj (by omega) h3
 rw[h4] at h
 exact⟨kk-Pm.upto a b s d j,by omega,h⟩
theorem nth_any (a b:ByteArray) (n d:Nat) (k:Int) (t:List UInt8) (s:ByteArray) (w:World) (hb:b.size≤maxLen) (hn1:1≤n) (hn11:n≤11) (hn:s.size+d=n) (h:At a.toList b.toList t s.toList d k):
  Calls Tryz.prog 206 #[.string s,.int .i64 n,.string a,.string b,.int .i64 k] w fun e w'=>∃r:ByteArray,e=.returned (.string r)∧r.toList=t∧Below w.heap.size w w':=by
 have HM:=z9 (many_any a b n hb hn1 hn11)
 go_enter Tryz.func206,Tryz.ntmps206
 go_wp2
 go_loopw [0,4] (fun v kv wr=>∃(s':ByteArray) (d':Nat) (k':Int),v=.string s'∧kv=.int .i64 k'∧Hid (s'.size+d'=n)∧Hid (At a.toList b.toList t s'.toList d' k')∧Below w.heap.size w wr)
  (fun v _ _=>20-(match v with | .string L=>L.size | _=>0))
 case atStart=>exact⟨s,d,k,rfl,rfl,hn,h,Below.refl _ _⟩
 case round=>
  clear h hn
  obtain⟨s',d',k',rfl,rfl,Hn,Hat,hbel⟩:=hrel
  have hs11:s'.size≤11:=by have:=Hn.out;omega
  cases d' with
  | zero=>
   have hc:¬(s'.size:Int)<n:=by have:=Hn.out;omega
   have HT:=z9 Hat.out.zero.symm
   go_wp2_with fail
   go_ret
   exact⟨s',rfl,HT.out,hbel⟩
  | succ dd=>
   have hc:(s'.size:Int)<n:=by have:=Hn.out;omega
   go_wp2_with fail
   go_loopw [0,4,11] (fun v kv i wi=>∃(c q:Int) (j:Nat),Hid (c=97+j)∧97≤c∧c≤123∧i=.int .i64 c∧v=.string s'∧kv=.int .i64 q∧Hid (q=k'-Pm.upto a.toList b.toList s'.toList dd j)∧0≤q∧q≤3670344486987776∧Below w.heap.size w wi) (fun _ _ i _=>123-(intOf i).toNat)
   case atStart=>
    have h1:=Hat.out.bound
    have h2:(Pm.run a.toList b.toList s'.toList (dd+1)).length≤3670344486987776:=Nat.le_trans (Pm.run_le _ _ _ _) (pow26 _ (by have:=Hn.out;omega))
    exact⟨97,k',0,rfl,by omega,by omega,rfl,rfl,rfl,by unfold Hid;rw[Pm.upto_zero];omega,by omega,by omega,hbel⟩
   case round=>
    clear hbel
    obtain⟨c,q,j,Hc,hc0,hc1,rfl,rfl,rfl,Hq,hq0,hq1,hbel⟩:=hrel
    by_cases hct:c≤122
    ·have hj26:j<26:=by have:=Hc.out;omega
     have hcv:=fun w=>run_bytes_of_string (P:=Tryz.prog) w 9 178 5 s' Tryz.underlying9 Tryz.underlying178 Tryz.underlying5
     have HCC:Hid (c=((UInt8.ofNat (97+j)).toNat:Int)):=by
      unfold Hid
      have:(UInt8.ofNat (97+j)).toNat=97+j:=by simp;omega
      rw[this,Hc.out];omega
     obtain⟨T,hT⟩:∃T:ByteArray,T=⟨(s'.toList++[UInt8.ofNat (97+j)]).toArray⟩:=⟨_,rfl⟩
     have HT:=z9 hT
     have HTl:Hid (T.toList=s'.toList++[UInt8.ofNat (97+j)]):=by unfold Hid;rw[hT,ByteArray.toList_mk]
     have HTs:Hid (T.size+dd=n):=by
      unfold Hid;rw[←len_eq,HTl.out];simp[len_eq];have:=Hn.out;omega
     have HTz:Hid (T.size=s'.size+1):=by have h1:=HTs.out;have h2:=Hn.out;unfold Hid;omega
     have HS2:Hid (Pm.upto a.toList b.toList s'.toList dd (j+1)=Pm.upto a.toList b.toList s'.toList dd j+(Pm.run a.toList b.toList T.toList dd).length):=by
      unfold Hid;rw[HTl.out];exact Pm.upto_succ _ _ _ _ _ hj26
     obtain⟨m,hm⟩:∃m:Nat,m=(Pm.run a.toList b.toList T.toList dd).length:=⟨_,rfl⟩
     have HMm:=z9 hm
     have hm1:m≤3670344486987776:=by rw[hm];exact Nat.le_trans (Pm.run_le _ _ _ _) (pow26 _ (by have:=Hn.out;omega))
     have hBr:w.heap.size≤wr.heap.size:=hbel.size
     clear hT hm
     by_cases hqm:q<m
     ·have HN2:Hid (At a.toList b.toList t T.toList dd q):=by
       unfold Hid
       rw[HTl.out,Hq.out]
       exact Hat.out.next hj26 (by have:=Hq.out;omega) (by rw[←Hq.out,←HTl.out,←HMm.out];exact hqm)
      go_wp2_with (at_builtin;refine wpList_push_laid wr rfl (.tmp 24) (.tmp 27) rfl w.heap.size s' _ (UInt8.ofNat (97+j)) _ rfl rfl (by omega) hBr HCC.out T HT.out ?_;intro g cap w1 hb1 hrd;have hcv2:=hrd w1 (Below.refl _ _);clear hcv)
      refine(HM.out dd T _ HTs.out).mono ?_
      rintro e w2 ⟨rfl,hb2⟩
      rw[←HMm.out]
      have hb3:Below w.heap.size w w2:=(hbel.trans hb1).trans (hb2.mono (Nat.le_trans hBr hb1.size))
      have hcv3:=hrd w2 hb2
      clear hcv2 hb1 hb2 hrd
      go_wp2_with fail
      go_roundw
      case rel=>exact⟨T,dd,q,rfl,rfl,HTs,HN2,hb3⟩
      case measure=>
       have h1:=HTz.out
       have h2:=Hn.out
       show 20-T.size<20-s'.size
       omega
     ·go_wp2_with (at_builtin;refine wpList_push_laid wr rfl (.tmp 24) (.tmp 27) rfl w.heap.size s' _ (UInt8.ofNat (97+j)) _ rfl rfl (by omega) hBr HCC.out T HT.out ?_;intro g cap w1 hb1 hrd;have hcv2:=hrd w1 (Below.refl _ _);clear hcv hrd)
      refine(HM.out dd T _ HTs.out).mono ?_
      rintro e w2 ⟨rfl,hb2⟩
      rw[←HMm.out]
      have hb3:Below w.heap.size w w2:=(hbel.trans hb1).trans (hb2.mono (Nat.le_trans hBr hb1.size))
      clear hcv2 hb1 hb2
      go_wp2_with fail
      go_roundw
      case rel=>exact⟨c+1,q-m,j+1,by have:=Hc.out;unfold Hid;omega,by omega,by omega,rfl,rfl,rfl,by unfold Hid;rw[HS2.out,Hq.out,←HMm.out];omega,by omega,by omega,hb3⟩
      case measure=>simp[intOf];omega
    ·exfalso
     have hj26:j=26:=by have:=Hc.out;omega
     have h1:=Hat.out.bound
     have h2:=Hq.out
     rw[hj26,Pm.upto_all] at h2
     omega
end Qe
end Go.Proofs.YtlmdchpbpgcfmaaGreatDoor
/- What the reference's Place, Who, Two, Quarter and Between answer: the same as the program's, by the functions of Pm. -/
namespace Go.Proofs.YtlmdchpbpgcfmaaGreatDoor
namespace Qf
open Go.RowKit Pa Pb Pc Pd Pe Qa Qb Qc Qd Qe
/- behind the letters: what is left of the test -/
theorem chk_let {s:ByteArray} (h12:¬12<s.size) (hall:s.toList.all Pm.isLet=true) (h2:2≤s.size):
  Pm.chk s.toList=if((s[s.size-1]'(by omega)).toNat:Int)<98 then 2 else if 105<((s[s.size-1]'(by omega)).toNat:Int) then 2 else if(((s[s.size-2]'(by omega)).toNat:Int)==97)=true then 2 else 0:=by
 have hl:=len_eq s
 have h1:=last_eq s (by omega)
 have hc:=last2_eq s h2
 unfold Pm.chk
 rw[hl,if_neg h12,if_neg (by omega),hall,hc]
 have hw:Pm.isWho (Pm.whoOf s.toList)=(decide (98≤((s[s.size-1]'(by omega)).toNat:Int))&&decide (((s[s.size-1]'(by omega)).toNat:Int)≤105)):=by
  unfold Pm.isWho Pm.whoOf
  rw[h1]
  rw[Bool.eq_iff_iff]
  simp
  omega
 rw[hw]
 generalize ((s[s.size-1]'(by omega)).toNat:Int)=x
 generalize (((s[s.size-2]'(by omega)).toNat:Int)==97)=y
 by_cases hx1:x<98
 ·rw[if_pos hx1,decide_eq_false (by omega)];cases y<;>simp
 ·rw[if_neg hx1,decide_eq_true (by omega)]
  by_cases hx2:105<x
  ·rw[if_pos hx2,decide_eq_false (by omega)];cases y<;>simp
  ·rw[if_neg hx2,decide_eq_true (by omega)];cases y<;>simp
theorem place_ref (s:ByteArray) (w:World) (hs:s.size≤maxLen):
  Calls Tryz.prog 103 #[.string s] w fun e w'=>e=.returned (.int .i64 (Pm.chk s.toList))∧w'=w:=by
 have hl:=len_eq s
 have hm:=hs
 unfold maxLen at hm
 by_cases h12:12<s.size
 ·have H:Hid (Pm.chk s.toList=4):=by unfold Hid Pm.chk;rw[hl,if_pos h12]
  clear hl
  go_enter Tryz.func103,Tryz.ntmps103
  go_wp2
  go_ret
  exact⟨ret_int H.out.symm,rfl⟩
 ·have HB:Hid (s.toList.all Pm.isLet=false→Pm.chk s.toList=2):=by
   intro h3;unfold Pm.chk;rw[hl,if_neg h12,h3];simp
  have HL:Hid (s.size<2→Pm.chk s.toList=2):=by
   intro h3;unfold Pm.chk;rw[hl,if_neg h12,if_pos h3]
  clear hl
  go_enter Tryz.func103,Tryz.ntmps103
  go_wp2
  go_loop [4] (fun i=>∃k:Nat,k≤s.size∧i=.int .i64 k∧Hid ((s.toList.take k).all Pm.isLet=true)) (fun i=>s.size-(intOf i).toNat)
  case atStart=>exact⟨0,Nat.zero_le _,rfl,by unfold Hid;simp⟩
  case round=>
   obtain⟨k,hk,rfl,HA⟩:=hrel
   by_cases hlt:k<s.size
   ·have hb:s[k].toNat<256:=UInt8.toNat_lt _
    have HA1:Hid ((s.toList.take (k+1)).all Pm.isLet=Pm.isLet s[k]):=by
     unfold Hid;rw[take_snoc s k hlt,List.all_append,HA.out];simp
    have HA2:Hid (∀c,s.toList.all c=((s.toList.take (k+1)).all c&&(s.toList.drop (k+1)).all c)):=by
     intro c;rw[←List.all_append,List.take_append_drop]
    have HLt:Hid (Pm.isLet s[k]=(!(decide ((s[k].toNat:Int)<97)||decide (122<(s[k].toNat:Int))))):=isLet_iff _
    by_cases h1:(s[k].toNat:Int)<97
    ·have H:=z9 (HB.out (by rw[HA2.out,HA1.out,HLt.out,decide_eq_true h1];rfl))
     go_wp2
     go_ret
     exact⟨ret_int H.out.symm,rfl⟩
    ·by_cases h2:122<(s[k].toNat:Int)
     ·have H:=z9 (HB.out (by rw[HA2.out,HA1.out,HLt.out,decide_eq_true h2,Bool.or_true];rfl))
      go_wp2
      go_ret
      exact⟨ret_int H.out.symm,rfl⟩
     ·go_wp2
      go_round
      case rel=>exact⟨k+1,by omega,by go_num,by unfold Hid;rw[HA1.out,HLt.out,decide_eq_false h1,decide_eq_false h2];rfl⟩
      case measure=>simp[intOf];omega
   ·have HAll:Hid (s.toList.all Pm.isLet=true):=by
     have:=HA.out
     unfold Hid;rwa [List.take_of_length_le (by rw[len_eq];omega)] at this
    by_cases h2:s.size<2
    ·have H:=z9 (HL.out h2)
     go_wp2
     go_ret
     exact⟨ret_int H.out.symm,rfl⟩
    ·have hq1:s.size-1<s.size:=by omega
     have hq2:s.size-2<s.size:=by omega
     have HC:=chk_let h12 HAll.out (by omega:2≤s.size)
     have HC':=z9 HC
     clear HC
     by_cases h3:((s[s.size-1]'hq1).toNat:Int)<98
     ·have H:Hid (Pm.chk s.toList=2):=by unfold Hid;rw[HC'.out,if_pos h3]
      go_wp2
      go_ret
      exact⟨ret_int H.out.symm,rfl⟩
     ·by_cases h4:105<((s[s.size-1]'hq1).toNat:Int)
      ·have H:Hid (Pm.chk s.toList=2):=by unfold Hid;rw[HC'.out,if_neg h3,if_pos h4]
       go_wp2
       go_ret
       exact⟨ret_int H.out.symm,rfl⟩
      ·cases h5:(((s[s.size-2]'hq2).toNat:Int)==97)
       ·have H:Hid (Pm.chk s.toList=0):=by unfold Hid;rw[HC'.out,if_neg h3,if_neg h4,h5];rfl
        go_wp2
        go_ret
        exact⟨ret_int H.out.symm,rfl⟩
       ·have H:Hid (Pm.chk s.toList=2):=by unfold Hid;rw[HC'.out,if_neg h3,if_neg h4,h5];rfl
        go_wp2
        go_ret
        exact⟨ret_int H.out.symm,rfl⟩
end Qf
end Go.Proofs.YtlmdchpbpgcfmaaGreatDoor
/- What the reference's Two answers. -/
namespace Go.Proofs.YtlmdchpbpgcfmaaGreatDoor
namespace Qg
open Go.RowKit Pa Pb Pc Pd Pe Qa Qb Qc Qd Qe Qf
theorem two_ref (a b:ByteArray) (w:World) (ha:a.size≤maxLen) (hb:b.size≤maxLen):
  Calls Tryz.prog 185 #[.string a,.string b] w fun e w'=>e=.returned (.int .i64 (Pm.sides a.toList b.toList))∧w'=w:=by
 cases ea:a.toList.isEmpty<;>cases eb:b.toList.isEmpty
 all_goals
  have fa:=ea
  have fb:=eb
  simp only[List.isEmpty_iff,List.isEmpty_eq_false_iff] at fa fb
 ·by_cases h1:Pm.chk a.toList=0
  ·by_cases h2:Pm.chk b.toList=0
   ·cases h3:Op.bytesLess a.toList b.toList
    ·have H:Hid (Pm.sides a.toList b.toList=3):=by unfold Hid Pm.sides;simp[fa,fb,h1,h2,h3]
     have Ha:=z9 h1
     have Hb:=z9 h2
     clear h1 h2 fa fb
     go_enter Tryz.func185,Tryz.ntmps185
     go_wp2_with fail
     refine(place_ref a _ ha).mono ?_
     rintro e w' ⟨rfl,hw⟩
     have hw2:=hw.symm;subst hw2;clear hw
     rw[Ha.out]
     go_wp2_with fail
     refine(place_ref b _ hb).mono ?_
     rintro e w' ⟨rfl,hw⟩
     have hw2:=hw.symm;subst hw2;clear hw
     rw[Hb.out]
     go_wp2_with fail
     go_ret
     exact⟨ret_int H.out.symm,rfl⟩
    ·have H:Hid (Pm.sides a.toList b.toList=0):=by unfold Hid Pm.sides;simp[fa,fb,h1,h2,h3]
     have Ha:=z9 h1
     have Hb:=z9 h2
     clear h1 h2 fa fb
     go_enter Tryz.func185,Tryz.ntmps185
     go_wp2_with fail
     refine(place_ref a _ ha).mono ?_
     rintro e w' ⟨rfl,hw⟩
     have hw2:=hw.symm;subst hw2;clear hw
     rw[Ha.out]
     go_wp2_with fail
     refine(place_ref b _ hb).mono ?_
     rintro e w' ⟨rfl,hw⟩
     have hw2:=hw.symm;subst hw2;clear hw
     rw[Hb.out]
     go_wp2_with fail
     go_ret
     exact⟨ret_int H.out.symm,rfl⟩
   ·have H:Hid (Pm.sides a.toList b.toList=Pm.chk b.toList):=by unfold Hid Pm.sides;simp[fa,fb,h1,h2]
    have Ha:=z9 h1
    have Hb:=z9 h2
    clear h1 h2 fa fb
    obtain⟨cb,hcb⟩:∃cb,Pm.chk b.toList=cb:=⟨_,rfl⟩
    have nb:(cb==0)=false:=by rw[beq_eq_false_iff_ne,←hcb];exact Hb.out
    have Hcb:=z9 hcb
    clear hcb
    go_enter Tryz.func185,Tryz.ntmps185
    go_wp2_with fail
    refine(place_ref a _ ha).mono ?_
    rintro e w' ⟨rfl,hw⟩
    have hw2:=hw.symm;subst hw2;clear hw
    rw[Ha.out]
    go_wp2_with fail
    refine(place_ref b _ hb).mono ?_
    rintro e w' ⟨rfl,hw⟩
    have hw2:=hw.symm;subst hw2;clear hw
    rw[Hcb.out]
    go_wp2_with fail
    refine(place_ref b _ hb).mono ?_
    rintro e w' ⟨rfl,hw⟩
    have hw2:=hw.symm;subst hw2;clear hw
    rw[Hcb.out]
    go_wp2_with fail
    go_ret
    exact⟨ret_int (by rw[H.out,Hcb.out]),rfl⟩
  ·have H:Hid (Pm.sides a.toList b.toList=Pm.chk a.toList):=by unfold Hid Pm.sides;simp[fa,h1]
   have Ha:=z9 h1
   clear h1 fa fb
   obtain⟨ca,hca⟩:∃ca,Pm.chk a.toList=ca:=⟨_,rfl⟩
   have na:(ca==0)=false:=by rw[beq_eq_false_iff_ne,←hca];exact Ha.out
   have Hca:=z9 hca
   clear hca
   go_enter Tryz.func185,Tryz.ntmps185
   go_wp2_with fail
   refine(place_ref a _ ha).mono ?_
   rintro e w' ⟨rfl,hw⟩
   have hw2:=hw.symm;subst hw2;clear hw
   rw[Hca.out]
   go_wp2_with fail
   refine(place_ref a _ ha).mono ?_
   rintro e w' ⟨rfl,hw⟩
   have hw2:=hw.symm;subst hw2;clear hw
   rw[Hca.out]
   go_wp2_with fail
   go_ret
   exact⟨ret_int (by rw[H.out,Hca.out]),rfl⟩
 ·by_cases h1:Pm.chk a.toList=0
  ·have H:Hid (Pm.sides a.toList b.toList=0):=by unfold Hid Pm.sides;simp[fa,fb,h1]
   have Ha:=z9 h1
   clear h1 fa fb
   go_enter Tryz.func185,Tryz.ntmps185
   go_wp2_with fail
   refine(place_ref a _ ha).mono ?_
   rintro e w' ⟨rfl,hw⟩
   have hw2:=hw.symm;subst hw2;clear hw
   rw[Ha.out]
   go_wp2_with fail
   go_ret
   exact⟨ret_int H.out.symm,rfl⟩
  ·have H:Hid (Pm.sides a.toList b.toList=Pm.chk a.toList):=by unfold Hid Pm.sides;simp[fa,h1]
   have Ha:=z9 h1
   clear h1 fa fb
   obtain⟨ca,hca⟩:∃ca,Pm.chk a.toList=ca:=⟨_,rfl⟩
   have na:(ca==0)=false:=by rw[beq_eq_false_iff_ne,←hca];exact Ha.out
   have Hca:=z9 hca
   clear hca
   go_enter Tryz.func185,Tryz.ntmps185
   go_wp2_with fail
   refine(place_ref a _ ha).mono ?_
   rintro e w' ⟨rfl,hw⟩
   have hw2:=hw.symm;subst hw2;clear hw
   rw[Hca.out]
   go_wp2_with fail
   refine(place_ref a _ ha).mono ?_
   rintro e w' ⟨rfl,hw⟩
   have hw2:=hw.symm;subst hw2;clear hw
   rw[Hca.out]
   go_wp2_with fail
   go_ret
   exact⟨ret_int (by rw[H.out,Hca.out]),rfl⟩
 ·by_cases h2:Pm.chk b.toList=0
  ·have H:Hid (Pm.sides a.toList b.toList=0):=by unfold Hid Pm.sides;simp[fa,fb,h2]
   have Hb:=z9 h2
   clear h2 fa fb
   go_enter Tryz.func185,Tryz.ntmps185
   go_wp2_with fail
   refine(place_ref b _ hb).mono ?_
   rintro e w' ⟨rfl,hw⟩
   have hw2:=hw.symm;subst hw2;clear hw
   rw[Hb.out]
   go_wp2_with fail
   go_ret
   exact⟨ret_int H.out.symm,rfl⟩
  ·have H:Hid (Pm.sides a.toList b.toList=Pm.chk b.toList):=by unfold Hid Pm.sides;simp[fa,fb,h2]
   have Hb:=z9 h2
   clear h2 fa fb
   obtain⟨cb,hcb⟩:∃cb,Pm.chk b.toList=cb:=⟨_,rfl⟩
   have nb:(cb==0)=false:=by rw[beq_eq_false_iff_ne,←hcb];exact Hb.out
   have Hcb:=z9 hcb
   clear hcb
   go_enter Tryz.func185,Tryz.ntmps185
   go_wp2_with fail
   refine(place_ref b _ hb).mono ?_
   rintro e w' ⟨rfl,hw⟩
   have hw2:=hw.symm;subst hw2;clear hw
   rw[Hcb.out]
   go_wp2_with fail
   refine(place_ref b _ hb).mono ?_
   rintro e w' ⟨rfl,hw⟩
   have hw2:=hw.symm;subst hw2;clear hw
   rw[Hcb.out]
   go_wp2_with fail
   go_ret
   exact⟨ret_int (by rw[H.out,Hcb.out]),rfl⟩
 ·have H:Hid (Pm.sides a.toList b.toList=0):=by unfold Hid Pm.sides;simp[fa,fb]
  clear fa fb
  go_enter Tryz.func185,Tryz.ntmps185
  go_wp2_with fail
  go_ret
  exact⟨ret_int H.out.symm,rfl⟩
end Qg
end Go.Proofs.YtlmdchpbpgcfmaaGreatDoor
