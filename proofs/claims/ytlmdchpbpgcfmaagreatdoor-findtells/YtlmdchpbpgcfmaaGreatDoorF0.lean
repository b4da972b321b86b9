import Derived.Test.YtlmdchpbpgcfmaaGreatDoorJ1
import Derived.Lib.IndexLaws
import Derived.Lib.FieldsP
import Derived.Test.YtlmdchpbpgcfmaaGreatDoorB1
set_option linter.unusedVariables false
set_option maxRecDepth 100000
set_option maxHeartbeats 8000000
/- The plain mathematics of finding: where a part stands, words, lines. No program is named here. -/
namespace Go.Proofs.YtlmdchpbpgcfmaaGreatDoor
namespace Fi
/- does a part stand at an offset? -/
def isAt (t p:List UInt8) (i:Nat):Bool:=(t.drop i).take p.length==p
theorem isAt_le {t p:List UInt8} {i:Nat} (hp:p≠[]) (h:isAt t p i=true):i+p.length≤t.length:=by
 unfold isAt at h
 rw[beq_iff_eq] at h
 have:=congrArg List.length h
 rw[List.length_take,List.length_drop] at this
 have:=List.length_pos_iff.2 hp
 omega
def allF (t p:List UInt8):Nat→Nat→List Nat
 | 0,_=>[]
 | f+1,i=>if i+p.length≤t.length then(if isAt t p i then i::allF t p f (i+p.length) else allF t p f (i+1)) else[]
def all (t p:List UInt8):List Nat:=allF t p (t.length+1) 0
theorem allF_end {t p:List UInt8} {i:Nat} (h:¬i+p.length≤t.length):∀f,allF t p f i=[]
 | 0=>rfl
 | f+1=>by rw[allF,if_neg h]
/- it does not matter how far one may go, if it is far enough -/
theorem allF_more {t p:List UInt8} (hp:p≠[]):∀(f g i:Nat),t.length<f+i→t.length<g+i→allF t p f i=allF t p g i
 | 0,g,i,h1,h2=>by
  have:=List.length_pos_iff.2 hp
  rw[allF_end (by omega),allF_end (by omega)]
 | f+1,0,i,h1,h2=>by
  have:=List.length_pos_iff.2 hp
  rw[allF_end (by omega),allF_end (by omega)]
 | f+1,g+1,i,h1,h2=>by
  have:=List.length_pos_iff.2 hp
  rw[allF,allF]
  by_cases h:i+p.length≤t.length
  ·rw[if_pos h,if_pos h]
   cases isAt t p i with
   | true=>rw[if_pos rfl,if_pos rfl,allF_more hp f g (i+p.length) (by omega) (by omega)]
   | false=>rw[if_neg (by simp),if_neg (by simp),allF_more hp f g (i+1) (by omega) (by omega)]
  ·rw[if_neg h,if_neg h]
theorem all_yes {t p:List UInt8} (hp:p≠[]) {i:Nat} (h:isAt t p i=true):allF t p (t.length+1) i=i::allF t p (t.length+1) (i+p.length):=by
 have hl:=isAt_le hp h
 have:=List.length_pos_iff.2 hp
 rw[allF,if_pos hl,if_pos h,allF_more hp t.length (t.length+1) (i+p.length) (by omega) (by omega)]
theorem all_no {t p:List UInt8} (hp:p≠[]) {i:Nat} (h:isAt t p i=false):allF t p (t.length+1) i=allF t p (t.length+1) (i+1):=by
 have:=List.length_pos_iff.2 hp
 by_cases hl:i+p.length≤t.length
 ·rw[allF,if_pos hl,if_neg (by rw[h];simp),allF_more hp t.length (t.length+1) (i+1) (by omega) (by omega)]
 ·rw[allF_end hl,allF_end (by omega)]
/- each found is there, and none between -/
theorem found {t p:List UInt8} (hp:p≠[]):∀(f i:Nat),∀x ∈ allF t p f i,i≤x∧isAt t p x=true
 | 0,i,x,hx=>by cases hx
 | f+1,i,x,hx=>by
  rw[allF] at hx
  split at hx
  ·cases h:isAt t p i with
   | true=>
    rw[h,if_pos rfl] at hx
    rcases List.mem_cons.1 hx with rfl | hx
    ·exact⟨Nat.le_refl _,h⟩
    ·have:=found hp f (i+p.length) x hx
     exact⟨by omega,this.2⟩
   | false=>
    rw[h,if_neg (by simp)] at hx
    have:=found hp f (i+1) x hx
    exact⟨by omega,this.2⟩
  ·cases hx
/- one behind the other, so many of them take so much room -/
theorem room {t p:List UInt8} (hp:p≠[]):∀(f i:Nat),i≤t.length→i+(allF t p f i).length*p.length≤t.length
 | 0,i,h=>by simp[allF];exact h
 | f+1,i,h=>by
  rw[allF]
  split
  ·rename_i hl
   split
   ·have:=room (t:=t) hp f (i+p.length) hl
    rw[List.length_cons,Nat.add_mul];omega
   ·have hpos:=List.length_pos_iff.2 hp
    have:=room (t:=t) hp f (i+1) (by omega)
    omega
  ·simp;exact h
/- a text, cut at a letter -/
def cutC (c:UInt8):List UInt8→List (List UInt8)
 | []=>[[]]
 | x::r=>if x=c then[]::cutC c r else((x::(cutC c r).headD [])::(cutC c r).tail)
theorem cutC_ne (c:UInt8):∀s:List UInt8,cutC c s≠[]
 | []=>by simp[cutC]
 | x::r=>by unfold cutC;split<;>simp
theorem cutC_flat (c:UInt8):∀s:List UInt8,(cutC c s).flatten=s.filter fun x=>x !=c
 | []=>rfl
 | x::r=>by
  have ih:=cutC_flat c r
  unfold cutC
  by_cases h:x=c
  ·rw[if_pos h,List.flatten_cons,List.nil_append,ih,List.filter_cons,if_neg (by simp[h])]
  ·rw[if_neg h,List.filter_cons,if_pos (by simp[h]),←ih]
   cases e:cutC c r with
   | nil=>exact absurd e (cutC_ne c r)
   | cons a b=>simp
theorem cutC_free (c:UInt8):∀s:List UInt8,∀w ∈ cutC c s,c ∉ w
 | [],w,hw=>by simp[cutC] at hw;rw[hw];simp
 | x::r,w,hw=>by
  have ih:=cutC_free c r
  unfold cutC at hw
  by_cases h:x=c
  ·rw[if_pos h] at hw
   rcases List.mem_cons.1 hw with rfl | hw
   ·simp
   ·exact ih w hw
  ·rw[if_neg h] at hw
   cases e:cutC c r with
   | nil=>exact absurd e (cutC_ne c r)
   | cons a b=>
    rw[e] at hw ih
    simp only[List.headD_cons,List.tail_cons] at hw
    rcases List.mem_cons.1 hw with rfl | hw
    ·intro hc
     rcases List.mem_cons.1 hc with q | q
     ·exact h q.symm
     ·exact ih a (List.mem_cons_self ..) q
    ·exact ih w (List.mem_cons_of_mem _ hw)
theorem cutC_none {c:UInt8}:∀x:List UInt8,c ∉ x→cutC c x=[x]
 | [],_=>rfl
 | y::r,h=>by
  have h1:y≠c:=fun e=>h (by simp[e])
  have h2:c ∉ r:=fun e=>h (by simp[e])
  unfold cutC;rw[if_neg h1,cutC_none r h2];rfl
theorem cutC_app {c:UInt8}:∀(x r:List UInt8),c ∉ x→cutC c (x++c::r)=x::cutC c r
 | [],r,_=>by simp[cutC]
 | y::x,r,h=>by
  have h1:y≠c:=fun e=>h (by simp[e])
  have h2:c ∉ x:=fun e=>h (by simp[e])
  rw[List.cons_append,cutC,if_neg h1,cutC_app x r h2];rfl
def words (s:List UInt8):List (List UInt8):=(cutC 32 s).filter fun w=> !w.isEmpty
theorem flat_words:∀l:List (List UInt8),(l.filter fun w=> !w.isEmpty).flatten=l.flatten
 | []=>rfl
 | w::l=>by
  rw[List.filter_cons]
  cases w with
  | nil=>simp[flat_words l]
  | cons a b=>simp[flat_words l]
theorem words_flat (s:List UInt8):(words s).flatten=s.filter fun x=>x !=32:=by unfold words;rw[flat_words,cutC_flat]
theorem words_ok {s w:List UInt8} (h:w ∈ words s):w≠[]∧(32:UInt8) ∉ w:=by
 unfold words at h
 rw[List.mem_filter] at h
 refine⟨fun e=> ?_,cutC_free 32 s w h.1⟩
 rw[e] at h;simp at h
/- a word, cut into what goes into a line -/
def chop (n:Nat):Nat→List UInt8→List (List UInt8)
 | 0,s=>[s]
 | f+1,s=>if n<s.length then s.take n::chop n f (s.drop n) else[s]
theorem chop_flat (n:Nat):∀(f:Nat) (s:List UInt8),(chop n f s).flatten=s
 | 0,s=>by simp[chop]
 | f+1,s=>by
  unfold chop
  split
  ·rw[List.flatten_cons,chop_flat n f,List.take_append_drop]
  ·simp
theorem chop_ok {n:Nat} (hn:1≤n):∀(f:Nat) (s:List UInt8),s.length≤f→s≠[]→∀w ∈ chop n f s,w≠[]∧w.length≤n
 | 0,s,hf,h0,w,hw=>absurd (List.eq_nil_of_length_eq_zero (by omega)) h0
 | f+1,s,hf,h0,w,hw=>by
  unfold chop at hw
  split at hw
  ·rename_i hl
   rcases List.mem_cons.1 hw with rfl | hw
   ·refine⟨fun e=> ?_,by rw[List.length_take];omega⟩
    have:=congrArg List.length e
    rw[List.length_take,List.length_nil] at this
    omega
   ·refine chop_ok hn f (s.drop n) (by rw[List.length_drop];omega) (fun e=> ?_) w hw
    have:=congrArg List.length e
    rw[List.length_drop,List.length_nil] at this
    omega
  ·rename_i hl
   rw[List.mem_singleton.1 hw];exact⟨h0,by omega⟩
/- one word more -/
def addW (n:Nat) (out:List (List UInt8)) (s:List UInt8):List (List UInt8):=
 if out≠[]∧(out.getLastD []).length+1+s.length≤n then out.dropLast++[out.getLastD []++32::s] else out++chop n s.length s
def lines (n:Nat) (t:List UInt8):List (List UInt8):=(words t).foldl (addW n) []
theorem last_eq {out:List (List UInt8)} (h:out≠[]):out.dropLast++[out.getLastD []]=out:=by
 have e:out.getLastD []=out.getLast h:=by
  cases out with
  | nil=>exact absurd rfl h
  | cons a b=>rw[List.getLastD_cons,List.getLast_eq_getLastD]
 rw[e];exact List.dropLast_concat_getLast h
theorem addW_flat (n:Nat) (out:List (List UInt8)) (s:List UInt8) (hs:(32:UInt8) ∉ s):((addW n out s).flatten.filter fun x=>x !=32)=(out.flatten.filter fun x=>x !=32)++s:=by
 have hself:(s.filter fun x=>x !=32)=s:=by
  rw[List.filter_eq_self]
  intro x hx
  have:x≠32:=fun e=>hs (e▸hx)
  simpa using this
 unfold addW
 split
 ·rename_i h
  conv=>rhs;rw[←last_eq h.1]
  rw[List.flatten_append,List.flatten_append,List.filter_append,List.filter_append,List.append_assoc]
  congr 1
  simp only[List.flatten_cons,List.flatten_nil,List.append_nil,List.filter_append]
  rw[List.filter_cons,if_neg (by simp),hself]
 ·rw[List.flatten_append,List.filter_append,chop_flat,hself]
theorem addW_ok {n:Nat} (hn:1≤n) {out:List (List UInt8)} {s:List UInt8} (h:∀w ∈ out,w≠[]∧w.length≤n) (hs:s≠[]):∀w ∈ addW n out s,w≠[]∧w.length≤n:=by
 intro w hw
 unfold addW at hw
 split at hw
 ·rename_i hl
  rcases List.mem_append.1 hw with hw | hw
  ·exact h w ((List.dropLast_sublist out).subset hw)
  ·rw[List.mem_singleton.1 hw]
   exact⟨by simp,by rw[List.length_append,List.length_cons];omega⟩
 ·rcases List.mem_append.1 hw with hw | hw
  ·exact h w hw
  ·exact chop_ok hn s.length s (Nat.le_refl _) hs w hw
theorem fold_ok {n:Nat} (hn:1≤n):∀(l out:List (List UInt8)),(∀w ∈ l,w≠[]∧(32:UInt8) ∉ w)→(∀w ∈ out,w≠[]∧w.length≤n)→
  (∀w ∈ l.foldl (addW n) out,w≠[]∧w.length≤n)∧((l.foldl (addW n) out).flatten.filter fun x=>x !=32)=(out.flatten.filter fun x=>x !=32)++l.flatten
 | [],out,_,ho=>⟨ho,by simp⟩
 | s::l,out,hl,ho=>by
  have h1:=hl s (List.mem_cons_self ..)
  obtain⟨i1,i2⟩:=fold_ok hn l (addW n out s) (fun w hw=>hl w (List.mem_cons_of_mem _ hw)) (addW_ok hn ho h1.1)
  refine⟨i1, ?_⟩
  rw[List.foldl_cons,i2,addW_flat n out s h1.2,List.flatten_cons,List.append_assoc]
/- lines are as wide as they may be, and have all words -/
end Fi
end Go.Proofs.YtlmdchpbpgcfmaaGreatDoor
/- The plain mathematics of what the library answers: where a part stands first, what stands between blanks. No program is named here. -/
namespace Go.Proofs.YtlmdchpbpgcfmaaGreatDoor
namespace F1
open Fi
/- where a part stands first, and where it stands at all -/
theorem isAt_occ {t p : List UInt8} {i : Nat} (hp : p ≠ []) : isAt t p i = Lib.occAt t p i := by
  by_cases h : i + p.length ≤ t.length
  · rw [Lib.occAt_iff_take _ _ _ h]; rfl
  · have h1 : isAt t p i = false := by
      cases e : isAt t p i with
      | false => rfl
      | true => exact absurd (isAt_le hp e) h
    have h2 : Lib.occAt t p i = false := by
      cases e : Lib.occAt t p i with
      | false => rfl
      | true => rcases Lib.occAt_room e with h3 | h3
                · exact absurd h3 h
                · exact absurd h3 hp
    rw [h1, h2]
theorem occ_drop (t p:List UInt8) (from_ i:Nat):Lib.occAt (t.drop from_) p i=Lib.occAt t p (from_+i):=by
 unfold Lib.occAt;rw[List.drop_drop]
theorem skip {t p:List UInt8} (hp:p≠[]):∀(n i:Nat),(∀j,i≤j→j<i+n→isAt t p j=false)→allF t p (t.length+1) i=allF t p (t.length+1) (i+n)
 | 0,i,_=>rfl
 | n+1,i,h=>by
  rw[all_no hp (h i (Nat.le_refl _) (by omega)),skip hp n (i+1) (fun j h1 h2=>h j (by omega) (by omega))]
  congr 1;omega
theorem first_or (l p:List UInt8) (hp:p≠[]):(Lib.index l p= -1∧∀j,Lib.occAt l p j=false)∨∃k:Nat,Lib.index l p=k∧Lib.occAt l p k=true∧∀j,j<k→Lib.occAt l p j=false:=by
 by_cases h:∃k,Lib.occAt l p k=true
 ·have key:∀n:Nat,(∃k,k<n∧Lib.occAt l p k=true)→∃k,Lib.occAt l p k=true∧∀j,j<k→Lib.occAt l p j=false:=by
   intro n
   induction n with
   | zero=>rintro⟨k,hk,_⟩;omega
   | succ n ih=>
    rintro⟨k,hk,ho⟩
    by_cases h2:∃k,k<n∧Lib.occAt l p k=true
    ·exact ih h2
    ·refine⟨k,ho,fun j hj=> ?_⟩
     cases e:Lib.occAt l p j with
     | false=>rfl
     | true=>exact absurd ⟨j,by omega,e⟩ h2
  obtain⟨k0,hk0⟩:=h
  obtain⟨k,hk,hn⟩:=key (k0+1) ⟨k0,by omega,hk0⟩
  refine Or.inr ⟨k,Lib.index_first ?_ hk hn,hk,hn⟩
  rcases Lib.occAt_room hk with h3 | h3
  ·omega
  ·exact absurd h3 hp
 ·have hn:∀j,Lib.occAt l p j=false:=fun j=>by
   cases e:Lib.occAt l p j with
   | false=>rfl
   | true=>exact absurd ⟨j,e⟩ h
  exact Or.inl ⟨Lib.index_none fun j _=>hn j,hn⟩
/- what is found from an offset on -/
theorem next_none {t p:List UInt8} (hp:p≠[]) {from_:Nat} (h:Lib.index (t.drop from_) p= -1):allF t p (t.length+1) from_=[]:=by
 rcases first_or (t.drop from_) p hp with⟨_,hn⟩ | ⟨k,hk,_⟩
 ·rw[skip hp (t.length+1) from_ (fun j h1 _=>by
   rw[isAt_occ hp,show j=from_+(j-from_) by omega,←occ_drop];exact hn _),allF_end (by omega)]
 ·rw[h] at hk;omega
theorem next_some {t p:List UInt8} (hp:p≠[]) {from_ k:Nat} (h:Lib.index (t.drop from_) p=k):from_+k+p.length≤t.length∧allF t p (t.length+1) from_=(from_+k)::allF t p (t.length+1) (from_+k+p.length):=by
 rcases first_or (t.drop from_) p hp with⟨hk,_⟩ | ⟨k2,hk,ho,hn⟩
 ·rw[h] at hk;omega
 ·obtain rfl:k=k2:=by rw[h] at hk;exact Int.ofNat.inj hk
  have hat:isAt t p (from_+k)=true:=by rw[isAt_occ hp,←occ_drop];exact ho
  refine⟨isAt_le hp hat, ?_⟩
  rw[skip hp k from_ (fun j h1 h2=>by
   rw[isAt_occ hp,show j=from_+(j-from_) by omega,←occ_drop];exact hn _ (by omega)),all_yes hp hat]
/- blanks and what is decoded -/
theorem dec_blank (n b0 b1 b2 b3:Nat):((Lib.decodeN n b0 b1 b2 b3).1==32)=(b0==32):=by
 rw[Bool.eq_iff_iff,beq_iff_eq,beq_iff_eq]
 unfold Lib.decodeN
 repeat' split
 all_goals ((try simp only[])<;>omega)
theorem dec_one (n b1 b2 b3:Nat):Lib.decodeN n 32 b1 b2 b3=(32,1):=by unfold Lib.decodeN;rw[if_pos (by omega)]
theorem dec_rest (n b0 b1 b2 b3:Nat):(Lib.decodeN n b0 b1 b2 b3).2≤4∧(2≤(Lib.decodeN n b0 b1 b2 b3).2→b1≠32)∧(3≤(Lib.decodeN n b0 b1 b2 b3).2→b2≠32)∧(4≤(Lib.decodeN n b0 b1 b2 b3).2→b3≠32):=by
 unfold Lib.decodeN
 repeat' split
 all_goals ((try simp only[])<;>omega)
theorem get_at (s:ByteArray) (i:Nat) (h:i<s.size):s.data.toList[i]? =some (s.get! i):=by
 have h1:i<s.data.toList.length:=h
 have h2:s.get! i=s.data[i]'h:=by
  show s.data[i]! =_
  exact getElem!_pos s.data i h
 rw[List.getElem?_eq_getElem h1,h2]
 rfl
theorem byte_eq {x:UInt8} (h:x.toNat=32):x=32:=UInt8.toNat_inj.1 h
/- what is decoded at a place is a blank just where a blank stands; else no blank stands in it -/
theorem dec_is (s:ByteArray) (i:Nat):((Utf8.decode s i).1==32)=((s.get! i).toNat==32):=by rw[Lib.decode_at];exact dec_blank _ _ _ _ _
theorem dec_at (s:ByteArray) (i:Nat) (h:(s.get! i).toNat=32):(Utf8.decode s i).2=1:=by rw[Lib.decode_at,h,dec_one]
theorem dec_free (s:ByteArray) (i:Nat) (hle:i+(Utf8.decode s i).2≤s.size) (h:(s.get! i).toNat≠32):(32:UInt8) ∉ (s.data.toList.drop i).take (Utf8.decode s i).2:=by
 intro hm
 obtain⟨j,hj,he⟩:=List.mem_iff_getElem.1 hm
 rw[List.length_take] at hj
 have hjw:j<(Utf8.decode s i).2:=by omega
 have h1:s.data.toList[i+j]? =some 32:=by
  rw[List.getElem_take,List.getElem_drop] at he
  rw[List.getElem?_eq_getElem (by rw[List.length_drop] at hj;omega),he]
 have hlt:i+j<s.size:=by omega
 rw[get_at s (i+j) hlt] at h1
 have h2:(s.get! (i+j)).toNat=32:=by rw[Option.some.inj h1];rfl
 obtain⟨d0,d1,d2,d3⟩:=dec_rest (s.size-i) (s.get! i).toNat (s.get! (i+1)).toNat (s.get! (i+2)).toNat (s.get! (i+3)).toNat
 rw[←Lib.decode_at] at d0 d1 d2 d3
 rcases j with _ | _ | _ | _ | j
 ·exact h h2
 ·exact d1 (by omega) h2
 ·exact d2 (by omega) h2
 ·exact d3 (by omega) h2
 ·omega
/- words, behind what is open -/
def wf (cur l:List UInt8):List (List UInt8):=((cur++(cutC 32 l).headD [])::(cutC 32 l).tail).filter fun w=> !w.isEmpty
theorem wf_words (l:List UInt8):wf [] l=words l:=by
 unfold wf words
 have:=cutC_ne 32 l
 cases h:cutC 32 l with
 | nil=>exact absurd h this
 | cons a b=>rfl
theorem wf_nil (cur:List UInt8):wf cur []=if cur.isEmpty then[] else[cur]:=by
 unfold wf;cases cur<;>simp[cutC]
theorem wf_blank (cur r:List UInt8):wf cur (32::r)=(if cur.isEmpty then[] else[cur])++wf [] r:=by
 have e:cutC 32 (32::r)=[]::cutC 32 r:=by rw[cutC,if_pos rfl]
 rw[wf_words]
 unfold wf words
 rw[e,List.headD_cons,List.tail_cons,List.append_nil,List.filter_cons]
 cases cur<;>simp
theorem wf_more (cur:List UInt8) {x:UInt8} (r:List UInt8) (h:x≠32):wf cur (x::r)=wf (cur++[x]) r:=by
 unfold wf
 rw[cutC,if_neg h,List.headD_cons,List.tail_cons,List.append_assoc];rfl
theorem wf_run:∀(u cur r:List UInt8),(32:UInt8) ∉ u→wf cur (u++r)=wf (cur++u) r
 | [],cur,r,_=>by simp
 | x::u,cur,r,h=>by
  have h1:x≠32:=fun e=>h (by simp[e])
  rw[List.cons_append,wf_more cur _ h1,wf_run u _ r (fun e=>h (by simp[e])),List.append_assoc];rfl
theorem spans_end (s:ByteArray) (f pos:Nat) (st:Option Nat) (acc:List (Nat × Nat)) (hp:pos≤s.size) (hst:∀a,st=some a→a<pos) (hlt:¬pos<s.size):
  acc.map (fun p=>Lib.pieceU s.data.toList p.1 p.2)++wf (Lib.openPiece s.data.toList st pos) (s.data.toList.drop pos)=(Lib.closeSpans s (Lib.spansFromP (fun r=>r==32) s f pos st acc)).map (fun p=>Lib.pieceU s.data.toList p.1 p.2):=by
 obtain rfl:pos=s.size:=by omega
 have hd:s.data.toList.drop s.size=[]:=List.drop_eq_nil_of_le (Nat.le_of_eq rfl)
 rw[hd,wf_nil,Lib.spansFromP_end _ s _ _ _ _ hlt]
 cases st with
 | none=>simp[Lib.closeSpans,Lib.openPiece]
 | some a=>
  have:=Lib.pieceU_ne s.data.toList a s.size (hst a rfl) (Nat.le_of_eq rfl)
  have hpe:(Lib.pieceU s.data.toList a s.size).isEmpty=false:=by
   cases e:Lib.pieceU s.data.toList a s.size with
   | nil=>exact absurd e this
   | cons _ _=>rfl
  simp[Lib.closeSpans,Lib.openPiece,hpe]
theorem spans_words (s:ByteArray):∀(f pos:Nat) (st:Option Nat) (acc:List (Nat × Nat)),s.size≤pos+f→pos≤s.size→(∀a,st=some a→a<pos)→
  acc.map (fun p=>Lib.pieceU s.data.toList p.1 p.2)++wf (Lib.openPiece s.data.toList st pos) (s.data.toList.drop pos)=(Lib.closeSpans s (Lib.spansFromP (fun r=>r==32) s f pos st acc)).map (fun p=>Lib.pieceU s.data.toList p.1 p.2)
 | 0,pos,st,acc,h,hp,hst=>spans_end s 0 pos st acc hp hst (by omega)
 | f+1,pos,st,acc,h,hp,hst=>by
  by_cases hlt:pos<s.size
  ·have hw:=Lib.width_pos s pos
   have hwn:pos+(Utf8.decode s pos).2≤s.size:=by
    have:=Lib.decodeN_le_n' (s.size-pos) (s.get! pos).toNat (s.get! (pos+1)).toNat (s.get! (pos+2)).toNat (s.get! (pos+3)).toNat (by omega)
    rw[←Lib.decode_at] at this
    omega
   have hg:=get_at s pos hlt
   have hl:pos<s.data.toList.length:=hlt
   simp only[Lib.spansFromP,if_pos hlt,dec_is]
   by_cases hb:(s.get! pos).toNat=32
   ·have hx:s.get! pos=32:=byte_eq hb
    have hd:s.data.toList.drop pos=32::s.data.toList.drop (pos+1):=by
     rw[List.drop_eq_getElem_cons hl]
     congr 1
     rw[List.getElem?_eq_getElem hl,hx] at hg
     exact Option.some.inj hg
    rw[if_pos (by simpa using hb),dec_at s pos hb,hd,wf_blank]
    cases st with
    | none=>
     have ih:=spans_words s f (pos+1) none acc (by omega) (by omega) (fun a h=>by cases h)
     simpa[Lib.openPiece] using ih
    | some a=>
     have hpn:=Lib.pieceU_ne s.data.toList a pos (hst a rfl) (by omega)
     have ih:=spans_words s f (pos+1) none (acc++[(a,pos)]) (by omega) (by omega) (fun a h=>by cases h)
     have hpe:(Lib.pieceU s.data.toList a pos).isEmpty=false:=by
      cases e:Lib.pieceU s.data.toList a pos with
      | nil=>exact absurd e hpn
      | cons _ _=>rfl
     simpa[Lib.openPiece,hpe] using ih
   ·have hfr:=dec_free s pos hwn hb
    have hd:s.data.toList.drop pos=(s.data.toList.drop pos).take (Utf8.decode s pos).2++s.data.toList.drop (pos+(Utf8.decode s pos).2):=by
     conv=>lhs;rw[←List.take_append_drop (Utf8.decode s pos).2 (s.data.toList.drop pos)]
     rw[List.drop_drop]
    rw[if_neg (by simpa using hb),hd,wf_run _ _ _ hfr]
    cases st with
    | none=>
     have ih:=spans_words s f (pos+(Utf8.decode s pos).2) (some pos) acc (by omega) hwn (fun a h=>by cases h;omega)
     have e:([]:List UInt8)++(s.data.toList.drop pos).take (Utf8.decode s pos).2=Lib.pieceU s.data.toList pos (pos+(Utf8.decode s pos).2):=by
      unfold Lib.pieceU
      rw[List.nil_append,Nat.add_sub_cancel_left]
     simp only[Lib.openPiece] at ih ⊢
     rw[e]
     exact ih
    | some a=>
     have ih:=spans_words s f (pos+(Utf8.decode s pos).2) (some a) acc (by omega) hwn (fun b h=>by cases h;have:=hst a rfl;omega)
     simp only[Lib.openPiece] at ih ⊢
     rw[Lib.pieceU_grow _ _ _ _ (Nat.le_of_lt (hst a rfl))]
     exact ih
  ·exact spans_end s (f+1) pos st acc hp hst hlt
/- what stands between blanks -/
theorem fields_words (s:ByteArray):(Lib.goFieldsP (fun r=>r==32) s).map (fun b=>b.toList)=words s.toList:=by
 have h:=spans_words s s.size 0 none [] (by omega) (Nat.zero_le _) (fun a h=>by cases h)
 rw[ByteArray.toList_eq s]
 rw[List.map_nil,List.nil_append,List.drop_zero] at h
 rw[←wf_words]
 refine Eq.trans ?_ h.symm
 unfold Lib.goFieldsP Lib.spansOfP
 rw[List.map_map]
 refine List.map_congr_left fun p _=> ?_
 show(s.extract p.1 p.2).toList=_
 rw[ByteArray.toList_eq]
 exact Lib.extract_data s p.1 p.2
end F1
end Go.Proofs.YtlmdchpbpgcfmaaGreatDoor
/- The plain mathematics of a delete: what is seen behind it; of a replacement: which ops it is. No program is named here. -/
namespace Go.Proofs.YtlmdchpbpgcfmaaGreatDoor
namespace Fj
open Cm Om Hm Um Ba Bf Bp
open Bm (Leaf none0 bookE isS)
/- the leafs that are seen -/
theorem delL_len (S:Dq) (who:Int) (a n:Nat):(delL S who a ((a+n:Nat):Int)).length=n:=by
 unfold delL;rw[List.length_map,List.length_range];omega
/- what is seen behind the first k strikes of a delete -/
/- which ops replace a part: from the last place to the first -/
def rpE (who:Int) (n:Nat) (by_:ByteArray):List Nat→Dq→Int
 | [],_=>0
 | a::r,C=>
  if delE C who a ((a+n:Nat):Int)≠0 then delE C who a ((a+n:Nat):Int)
  else if runE C (delL C who a ((a+n:Nat):Int))≠0 then runE C (delL C who a ((a+n:Nat):Int))
  else if insE (runS C (delL C who a ((a+n:Nat):Int))) who a by_≠0 then insE (runS C (delL C who a ((a+n:Nat):Int))) who a by_
  else if runE (runS C (delL C who a ((a+n:Nat):Int))) (insL (runS C (delL C who a ((a+n:Nat):Int))) who a by_)≠0 then runE (runS C (delL C who a ((a+n:Nat):Int))) (insL (runS C (delL C who a ((a+n:Nat):Int))) who a by_)
  else rpE who n by_ r (runS (runS C (delL C who a ((a+n:Nat):Int))) (insL (runS C (delL C who a ((a+n:Nat):Int))) who a by_))
def rpL (who:Int) (n:Nat) (by_:ByteArray):List Nat→Dq→List Ox
 | [],_=>[]
 | a::r,C=>delL C who a ((a+n:Nat):Int)++insL (runS C (delL C who a ((a+n:Nat):Int))) who a by_++rpL who n by_ r (runS (runS C (delL C who a ((a+n:Nat):Int))) (insL (runS C (delL C who a ((a+n:Nat):Int))) who a by_))
/- places that fall, each with its room ahead of the one behind it -/
theorem ins_nil (C:Dq) (who off:Int):insL C who off ⟨#[]⟩=[]:=rfl
/- what is replaced by nothing is not there any more -/
end Fj
end Go.Proofs.YtlmdchpbpgcfmaaGreatDoor
