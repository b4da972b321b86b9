import Derived.Test.YtlmdchpbpgcfmaaGreatDoorRows
import Derived.Test.YtlmdchpbpgcfmaaGreatDoorJ1
import Derived.WalkKit
import Derived.WalkLawsBesides
import Derived.WalkSpells
import Derived.ProofKit
import Derived.OpenShut
import Derived.OwnWalk
import Derived.Laws.OwnMore
import Derived.Maps.AppendAt
import Derived.Deep.QuietTactic
import Derived.BigQuiet
import Derived.Lib.Bytealg
import Derived.Laws.Externs
import Derived.Laws.IdiomStrings
import Derived.Laws.BytesArg
set_option linter.unusedVariables false
set_option maxRecDepth 100000
set_option maxHeartbeats 8000000
/- What the small functions behind place.Check answer (a seat without the rest of package place). -/
namespace Go.Proofs.YtlmdchpbpgcfmaaGreatDoor
namespace Ka
open Go.ChangeShapes Go.WideShapes Go.ChangeAt Go.RowKit
theorem ret_bool {a b:Bool} (h:a=b):Ending.returned (.bool a)=.returned (.bool b):=by rw[h]
theorem ret_int {k:IntKind} {a b:Int} (h:a=b):Ending.returned (.int k a)=.returned (.int k b):=by rw[h]
/- an error of package api: nil for 0 -/
def errV (n:Int):Value:=if n=0 then .nilIface else .iface 84 (.int .i64 n)
theorem isAuthor_any (n:Int) (w:World):
  Calls Tryz.prog 136 #[.int .i64 n] w fun e w'=>e=.returned (.bool (Pm.isWho n))∧w'=w:=by
 go_enter Tryz.func136,Tryz.ntmps136
 go_wp2
 all_goals
  go_ret
  exact⟨ret_bool (by first | (simp[Pm.isWho, *];done) | (simp only[Pm.isWho];rw[decide_eq_false (by omega)];rfl)),rfl⟩
theorem last_eq (s:ByteArray) (h:0<s.size):s.toList.getLast?.getD 0=s[s.size-1]'(by omega):=by
 rw[ByteArray.toList_eq,List.getLast?_eq_getElem?]
 have:s.data.toList.length=s.size:=rfl
 rw[this,List.getElem?_eq_getElem (by rw[this];omega)]
 rfl
theorem authorOf_any (s:ByteArray) (w:World) (h:0<s.size) (hs:s.size≤maxLen):
  Calls Tryz.prog 174 #[.string s] w fun e w'=>e=.returned (.int .i64 (Pm.whoOf s.toList))∧w'=w:=by
 have hl:=last_eq s h
 have hb:(s[s.size-1]'(by omega)).toNat<256:=UInt8.toNat_lt _
 have H:Hid (Pm.whoOf s.toList=((s[s.size-1]'(by omega)).toNat:Int)-97):=by
  unfold Pm.whoOf Hid;rw[hl]
 clear hl
 unfold maxLen at hs
 go_enter Tryz.func174,Tryz.ntmps174
 go_wp2
 go_ret
 refine⟨ret_int ?_,rfl⟩
 rw[H.out]
theorem take_snoc (s:ByteArray) (k:Nat) (h:k<s.size):s.toList.take (k+1)=s.toList.take k++[s[k]]:=by
 rw[ByteArray.toList_eq,List.take_succ_eq_append_getElem (by simpa using h)];rfl
theorem isLet_iff (c:UInt8):Pm.isLet c=(!(decide ((c.toNat:Int)<97)||decide (122<(c.toNat:Int)))):=by
 rw[Bool.eq_iff_iff];simp[Pm.isLet];omega
theorem areLetters_any (s:ByteArray) (w:World) (hs:s.size≤maxLen):
  Calls Tryz.prog 173 #[.string s] w fun e w'=>e=.returned (.bool (s.toList.all Pm.isLet))∧w'=w:=by
 unfold maxLen at hs
 go_enter Tryz.func173,Tryz.ntmps173
 go_wp2
 go_loop [6] (fun i=>∃k:Nat,k≤s.size∧i=.int .i64 k∧(s.toList.take k).all Pm.isLet=true) (fun i=>s.size-(intOf i).toNat)
 case atStart=>exact⟨0,Nat.zero_le _,rfl,by simp⟩
 case round=>
  obtain⟨k,hk,rfl,hall⟩:=hrel
  by_cases hlt:k<s.size
  ·have ht:=take_snoc s k hlt
   have hb:s[k].toNat<256:=UInt8.toNat_lt _
   have HB:Hid (∀c,s.toList.all c=((s.toList.take (k+1)).all c&&(s.toList.drop (k+1)).all c)):=by
    intro c;rw[←List.all_append,List.take_append_drop]
   have HA:Hid ((s.toList.take (k+1)).all Pm.isLet=Pm.isLet s[k]):=by
    unfold Hid;rw[ht,List.all_append,hall];simp
   have HL:Hid (Pm.isLet s[k]=(!(decide ((s[k].toNat:Int)<97)||decide (122<(s[k].toNat:Int))))):=isLet_iff _
   clear ht hall
   by_cases h1:(s[k].toNat:Int)<97
   ·go_wp2
    go_ret
    exact⟨ret_bool (by rw[HB.out,HA.out,HL.out,decide_eq_true h1];rfl),rfl⟩
   ·by_cases h2:122<(s[k].toNat:Int)
    ·go_wp2
     go_ret
     exact⟨ret_bool (by rw[HB.out,HA.out,HL.out,decide_eq_true h2,Bool.or_true];rfl),rfl⟩
    ·go_wp2
     go_round
     case rel=>exact⟨k+1,by omega,by go_num,by rw[HA.out,HL.out,decide_eq_false h1,decide_eq_false h2];rfl⟩
     case measure=>simp[intOf];omega
  ·have HA:Hid (s.toList.all Pm.isLet=true):=by
    unfold Hid;rw[List.take_of_length_le (by rw[ByteArray.toList_eq];show s.size≤k;omega)] at hall;exact hall
   clear hall
   go_wp2
   go_ret
   exact⟨ret_bool HA.out.symm,rfl⟩
end Ka
end Go.Proofs.YtlmdchpbpgcfmaaGreatDoor
/- What place.Check answers, at every input. -/
namespace Go.Proofs.YtlmdchpbpgcfmaaGreatDoor
namespace Kb
open Go.ChangeShapes Go.WideShapes Go.ChangeAt Go.RowKit Ka
theorem len_eq (s:ByteArray):s.toList.length=s.size:=by rw[ByteArray.toList_eq];rfl
theorem ret_err {a b:Int} (h:a=b) (hb:b≠0):Ending.returned (.iface 84 (.int .i64 a))=.returned (errV b):=by
 rw[errV,if_neg hb,h]
theorem ret_nil {b:Int} (hb:b=0):Ending.returned .nilIface=.returned (errV b):=by
 rw[errV,if_pos hb]
theorem last2_eq (s:ByteArray) (h:2≤s.size):(s.toList.dropLast.getLast? ==some 97)=(((s[s.size-2]'(by omega)).toNat:Int)==97):=by
 have h1:s.toList.dropLast.getLast? =some (s[s.size-2]'(by omega)):=by
  rw[ByteArray.toList_eq,List.getLast?_eq_getElem?,List.length_dropLast]
  have h3:s.data.toList.length=s.size:=rfl
  rw[List.getElem?_dropLast,if_pos (by rw[h3];omega),List.getElem?_eq_getElem (by rw[h3];omega)]
  have:s.data.toList.length-1-1=s.size-2:=by rw[h3];omega
  simp only[this]
  rfl
 rw[h1]
 generalize s[s.size-2]'(by omega)=c
 rw[Bool.eq_iff_iff]
 simp only[beq_iff_eq,Option.some.injEq,←UInt8.toNat_inj]
 constructor
 ·intro h6;have:c.toNat=97:=h6;omega
 ·intro h6;show c.toNat=97;omega
theorem check_any (s:ByteArray) (w:World) (hs:s.size≤maxLen):
  Calls Tryz.prog 139 #[.string s] w fun e w'=>e=.returned (errV (Pm.chk s.toList))∧w'=w:=by
 have hm:=hs
 unfold maxLen at hm
 have hl:=len_eq s
 by_cases h1:12<s.size
 ·have H:Hid (Pm.chk s.toList=4):=by unfold Hid Pm.chk;rw[hl,if_pos h1]
  clear hl
  go_enter Tryz.func139,Tryz.ntmps139
  go_wp2
  go_ret
  exact⟨ret_err H.out.symm (by rw[H.out];decide),rfl⟩
 by_cases h2:s.size<2
 ·have H:Hid (Pm.chk s.toList=2):=by unfold Hid Pm.chk;rw[hl,if_neg h1,if_pos h2]
  clear hl
  go_enter Tryz.func139,Tryz.ntmps139
  go_wp2
  go_ret
  exact⟨ret_err H.out.symm (by rw[H.out];decide),rfl⟩
 cases h3:s.toList.all Pm.isLet
 ·have H:Hid (Pm.chk s.toList=2):=by unfold Hid Pm.chk;rw[hl,if_neg h1,if_neg h2,h3];rfl
  have H3:=z9 h3
  clear hl
  go_enter Tryz.func139,Tryz.ntmps139
  go_wp2_with (go_at_call 173;refine(areLetters_any _ _ hs).mono ?_;rintro e w' ⟨rfl,rfl⟩;rw[H3.out])
  go_ret
  exact⟨ret_err H.out.symm (by rw[H.out];decide),rfl⟩
 have H3:=z9 h3
 have hc:=last2_eq s (by omega)
 have hq:s.size-2<s.size:=by clear hl hc;omega
 cases h4:(((s[s.size-2]'hq).toNat:Int)==97)
 ·rw[h4] at hc
  cases h5:Pm.isWho (Pm.whoOf s.toList)
  ·have H:Hid (Pm.chk s.toList=2):=by unfold Hid Pm.chk;rw[hl,if_neg h1,if_neg h2,h3,hc,h5];rfl
   have H5:=z9 h5
   clear hl hc h3 h5
   go_enter Tryz.func139,Tryz.ntmps139
   go_wp2_with (first | (go_at_call 173;refine(areLetters_any _ _ hs).mono ?_;rintro e w' ⟨rfl,rfl⟩;rw[H3.out]) | (go_at_call 174;refine(authorOf_any _ _ (by omega) hs).mono ?_;rintro e w' ⟨rfl,rfl⟩) | (go_at_call 136;refine(isAuthor_any _ _).mono ?_;rintro e w' ⟨rfl,rfl⟩;rw[H5.out]))
   go_ret
   exact⟨ret_err H.out.symm (by rw[H.out];decide),rfl⟩
  ·have H:Hid (Pm.chk s.toList=0):=by unfold Hid Pm.chk;rw[hl,if_neg h1,if_neg h2,h3,hc,h5];rfl
   have H5:=z9 h5
   clear hl hc h3 h5
   go_enter Tryz.func139,Tryz.ntmps139
   go_wp2_with (first | (go_at_call 173;refine(areLetters_any _ _ hs).mono ?_;rintro e w' ⟨rfl,rfl⟩;rw[H3.out]) | (go_at_call 174;refine(authorOf_any _ _ (by omega) hs).mono ?_;rintro e w' ⟨rfl,rfl⟩) | (go_at_call 136;refine(isAuthor_any _ _).mono ?_;rintro e w' ⟨rfl,rfl⟩;rw[H5.out]))
   go_ret
   exact⟨ret_nil H.out,rfl⟩
 ·rw[h4] at hc
  have H:Hid (Pm.chk s.toList=2):=by unfold Hid Pm.chk;rw[hl,if_neg h1,if_neg h2,h3,hc];rfl
  clear hl hc h3
  go_enter Tryz.func139,Tryz.ntmps139
  go_wp2_with (first | (go_at_call 173;refine(areLetters_any _ _ hs).mono ?_;rintro e w' ⟨rfl,rfl⟩;rw[H3.out]))
  go_ret
  exact⟨ret_err H.out.symm (by rw[H.out];decide),rfl⟩
end Kb
end Go.Proofs.YtlmdchpbpgcfmaaGreatDoor
/- A book that lies in memory, three cells a leaf. -/
namespace Go.Proofs.YtlmdchpbpgcfmaaGreatDoor
namespace La
open Go.ChangeShapes Go.WideShapes Go.ChangeAt Go.RowKit Bm Ka Kb
theorem errV_zero:errV 0=.nilIface:=rfl
theorem errV_ne {n:Int} (h:n≠0):errV n=.iface 84 (.int .i64 n):=by unfold errV;rw[if_neg h]
theorem bel {w w1 w2:World} (h1:Below w.heap.size w w1) (h2:Below w1.heap.size w1 w2):Below w.heap.size w w2:=
 h1.trans (h2.mono h1.size)
theorem bel_drew {B:Nat} {a w:World} (h:Below B a w) (q:Nat):Below B a (w.drewN q):=⟨h.os,h.tape,h.output,h.size,h.block⟩
def aggL (x:Leaf):Value:=.agg #[.string x.1,.int .i64 x.2.1,.bool x.2.2]
def cells3 (x:Leaf):List Value:=[.string x.1,.int .i64 x.2.1,.bool x.2.2]
def flat (l:List Leaf):List Value:=l.flatMap cells3
theorem flat_append (a b:List Leaf):flat (a++b)=flat a++flat b:=by unfold flat;rw[List.flatMap_append]
theorem flat_length:∀l:List Leaf,(flat l).length=l.length*3
 | []=>rfl
 | x::l=>by
  have:=flat_length l
  unfold flat at this ⊢
  rw[List.flatMap_cons,List.length_append,this]
  simp[cells3];omega
theorem flat_at:∀{l:List Leaf} {j:Nat} (hj:j<l.length),(flat l)[j*3]? =some (.string (l.getD j none0).1)∧(flat l)[j*3+1]? =some (.int .i64 (l.getD j none0).2.1)∧(flat l)[j*3+2]? =some (.bool (l.getD j none0).2.2)
 | [],j,hj=>absurd hj (by simp)
 | x::l,0,_=>⟨rfl,rfl,rfl⟩
 | x::l,j+1,hj=>by
  have h:=flat_at (l:=l) (j:=j) (by simpa using hj)
  have e:∀i,(flat (x::l))[i+3]? =(flat l)[i]? :=fun i=>by
   unfold flat
   rw[List.flatMap_cons,List.getElem?_append_right (by simp[cells3])]
   simp[cells3]
  rw[show(j+1)*3=j*3+3 by omega,show j*3+3+1=j*3+1+3 by omega,show j*3+3+2=j*3+2+3 by omega,e,e,e]
  exact h
/- leaf j of a book at b, o -/
def At (w:World) (b o j:Nat) (x:Leaf):Prop:=w.cell? ⟨b,o+j*3,none⟩=some (.string x.1)∧w.cell? ⟨b,o+j*3+1,none⟩=some (.int .i64 x.2.1)∧w.cell? ⟨b,o+j*3+2,none⟩=some (.bool x.2.2)
def LeafsIn (w:World) (p:Option Addr) (l:List Leaf):Prop:=
 l=[]∨∃b o,p=some ⟨b,o,none⟩∧∀j,j<l.length→At w b o j (l.getD j none0)
theorem At.below {w w':World} {b o j:Nat} {x:Leaf} {B:Nat} (h:At w b o j x) (hb:Below B w w') (hB:b<B):At w' b o j x:=
 ⟨(hb.cell (p:=⟨b,o+j*3,none⟩) hB).trans h.1,(hb.cell (p:=⟨b,o+j*3+1,none⟩) hB).trans h.2.1,(hb.cell (p:=⟨b,o+j*3+2,none⟩) hB).trans h.2.2⟩
theorem At.lt {w:World} {b o j:Nat} {x:Leaf} (h:At w b o j x):b<w.heap.size:=World.block_lt_of_cell? _ ⟨b,o+j*3,none⟩ h.1
theorem LeafsIn.below {w w':World} {p:Option Addr} {l:List Leaf} (h:LeafsIn w p l) (hb:Below w.heap.size w w'):LeafsIn w' p l:=by
 rcases h with h | ⟨b,o,hp,hc⟩
 ·exact Or.inl h
 ·exact Or.inr ⟨b,o,hp,fun j hj=>(hc j hj).below hb (hc j hj).lt⟩
theorem LeafsIn.nil (w:World) (p:Option Addr):LeafsIn w p []:=Or.inl rfl
theorem LeafsIn.some {w:World} {p:Option Addr} {l:List Leaf} (h:LeafsIn w p l) (hl:l≠[]):∃b o,p=some ⟨b,o,none⟩∧∀j,j<l.length→At w b o j (l.getD j none0):=by
 rcases h with h | h
 ·exact absurd h hl
 ·exact h
theorem at_flat {w:World} {b o:Nat} {l:List Leaf} (h:∀j,j<l.length→At w b o j (l.getD j none0)):∀j u,(flat l)[j]? =some u→w.cell? ⟨b,o+j,none⟩=some u:=by
 intro j u hu
 have hj:j<l.length*3:=by rw[←flat_length];exact(List.getElem?_eq_some_iff.1 hu).1
 have hq:j/3<l.length:=by omega
 have hc:=h (j/3) hq
 have hf:=flat_at hq
 have hm:j=j/3*3+j%3:=by omega
 have h3:j%3=0∨j%3=1∨j%3=2:=by omega
 rcases h3 with e | e | e
 ·rw[e,Nat.add_zero] at hm
  rw[←hm] at hf
  rw[hf.1] at hu
  injection hu with hu
  rw[←hu]
  have:=hc.1
  rwa [←hm] at this
 ·rw[e] at hm
  rw[←hm] at hf
  rw[hf.2.1] at hu
  injection hu with hu
  rw[←hu]
  have:=hc.2.1
  rwa [show o+j/3*3+1=o+(j/3*3+1) by omega,←hm] at this
 ·rw[e] at hm
  rw[←hm] at hf
  rw[hf.2.2] at hu
  injection hu with hu
  rw[←hu]
  have:=hc.2.2
  rwa [show o+j/3*3+2=o+(j/3*3+2) by omega,←hm] at this
theorem flat_one (l:List Leaf):∀u ∈ flat l,u.oneCell'=true:=by
 intro u hu
 unfold flat at hu
 obtain⟨x,_,hx⟩:=List.mem_flatMap.1 hu
 simp only[cells3,List.mem_cons,List.not_mem_nil,or_false] at hx
 rcases hx with rfl | rfl | rfl<;>rfl
/- a row of the call's own, as a book -/
theorem own_book {w:World} {base:Nat} {t:TypeId} {v:Value} {n:Nat} {l:List Leaf} (h:w.ownsRow base t 3 v n (flat l)):l.length=n∧∃p c,v=.slice p n c∧LeafsIn w p l:=by
 have hn:l.length=n:=by have:=h.1;rw[flat_length] at this;omega
 refine⟨hn, ?_⟩
 rcases h.2 with⟨rfl,h0⟩ | ⟨g,cap,cur,rfl,_,h2,h3,h4,h5,h6⟩
 ·subst h0
  exact⟨none,0,rfl,Or.inl (List.eq_nil_of_length_eq_zero hn)⟩
 ·refine⟨some ⟨g,0,none⟩,cap,rfl,Or.inr ⟨g,0,rfl,fun j hj=> ?_⟩⟩
  have hf:=flat_at hj
  have key:∀i u,(flat l)[i]? =some u→w.cell? ⟨g,0+i,none⟩=some u:=by
   intro i u hu
   have hi:i<n*3:=by rw[←hn,←flat_length];exact(List.getElem?_eq_some_iff.1 hu).1
   rw[←h6,List.getElem?_take_of_lt hi] at hu
   rw[Nat.zero_add]
   simp only[World.cell?,h2]
   simpa using hu
  refine⟨key _ _ hf.1, ?_, ?_⟩
  ·have:=key _ _ hf.2.1;rwa [show 0+(j*3+1)=0+j*3+1 by omega] at this
  ·have:=key _ _ hf.2.2;rwa [show 0+(j*3+2)=0+j*3+2 by omega] at this
theorem own_ge {w:World} {base:Nat} {t:TypeId} {z:Nat} {v:Value} {n:Nat} {xs:List Value} (h:w.ownsRow base t z v n xs):∀k,v.ownBlock=some k→base≤k:=fun k hk=>(h.lt k hk).1
theorem own_grow {w wr w1 w2:World} {base:Nat} {t:TypeId} {z:Nat} {v:Value} {n:Nat} {xs:List Value} (h:wr.ownsRow base t z v n xs) (hb:Below base w w1) (hg:w1.grownBy w2 v.ownBlock) (hB:base≤w1.heap.size):Below base w w2:=
 hb.grown hg hB (fun k hk=>own_ge h k hk)
theorem own_below {w w2:World} {base:Nat} {t:TypeId} {z:Nat} {v:Value} {n:Nat} {xs:List Value} (h:w.ownsRow base t z v n xs) (hb:Below w.heap.size w w2):w2.ownsRow base t z v n xs:=by
 refine⟨h.1, ?_⟩
 rcases h.2 with h0 | ⟨g,cap,cur,h1,h2,h3,h4⟩
 ·exact Or.inl h0
 ·refine Or.inr ⟨g,cap,cur,h1,h2, ?_,h4⟩
  have hg:g<w.heap.size:=by
   rcases Nat.lt_or_ge g w.heap.size with e | e
   ·exact e
   ·rw[Array.getElem?_eq_none e] at h3;cases h3
  rw[hb.block g hg];exact h3
/- where a slice lies: from block B on, or it is empty -/
def Lies (B:Nat) (v:Value):Prop:=∀(a:Addr) (n c:Nat),v=.slice (some a) n c→0<n→B≤a.block
theorem Lies.nil (B:Nat):Lies B (.slice none 0 0):=fun a n c h=>by cases h
theorem Lies.at{B g o n c:Nat} (h:B≤g):Lies B (.slice (some ⟨g,o,none⟩) n c):=fun a m d e _=>by injection e with e1;injection e1 with e1;rw[←e1];exact h
theorem Lies.mono {B C:Nat} {v:Value} (h:Lies B v) (hC:C≤B):Lies C v:=fun a n c e hn=>Nat.le_trans hC (h a n c e hn)
theorem Lies.own {w:World} {base:Nat} {t:TypeId} {z:Nat} {v:Value} {n:Nat} {xs:List Value} (h:w.ownsRow base t z v n xs):Lies base v:=fun a m c e _=>own_ge h a.block (by rw[e];rfl)
end La
end Go.Proofs.YtlmdchpbpgcfmaaGreatDoor
/- What the small functions of package book answer: isLetter, isSeen, checkLeaf, Check, checkWith. -/
namespace Go.Proofs.YtlmdchpbpgcfmaaGreatDoor
namespace Lb
open Go.ChangeShapes Go.WideShapes Go.ChangeAt Go.RowKit Bm Ka Kb La
theorem isLetter_any (n:Int) (w:World):
  Calls Tryz.prog 122 #[.int .i64 n] w fun e w'=>e=.returned (.bool (isL n))∧w'=w:=by
 go_enter Tryz.func122,Tryz.ntmps122
 go_wp2
 all_goals
  go_ret
  exact⟨ret_bool (by first | (simp[isL, *];done) | (simp only[isL];rw[decide_eq_false (by omega)];rfl)),rfl⟩
theorem isSeen_any (s:ByteArray) (n:Int) (b:Bool) (w:World):
  Calls Tryz.prog 97 #[.agg #[.string s,.int .i64 n,.bool b]] w fun e w'=>e=.returned (.bool (isS (s,n,b)))∧Below w.heap.size w w':=by
 have H1:Hid (n=0→isS (s,n,b)=false):=by intro h;unfold isS;rw[h];rfl
 have H2:Hid (isS (s,n,b)=(n !=0 && !b)):=rfl
 go_enter Tryz.func97,Tryz.ntmps97
 go_wp2
 all_goals
  go_ret
  refine⟨ret_bool ?_,(Below.refl _ w).alloc (Nat.le_refl _) _⟩
  first
   | (rw[H1.out (by assumption)];done)
   | (rw[H2.out];done)
theorem checkLeaf_any (s : ByteArray) (n : Int) (b : Bool) (w : World) (hs : s.size ≤ maxLen) :
  Calls Tryz.prog 138 #[.agg #[.string s, .int .i64 n, .bool b]] w fun e w' => e = .returned (errV (leafE (s, n, b))) ∧ Below w.heap.size w w' := by
 have C := fun w => check_any s w hs
 by_cases h0 : Pm.chk s.toList = 0
 ·rw [h0, errV_zero] at C
  by_cases hn0 : n = 0
  ·subst hn0
   cases b
   ·have HE : Hid (leafE (s, 0, false) = 3) := by unfold Hid leafE; rw [if_neg (by simpa using h0), if_neg (fun h => h.1 rfl), if_pos ⟨rfl, rfl⟩]
    clear h0
    go_enter Tryz.func138, Tryz.ntmps138
    go_wp2_with (go_at_call 139; refine (C _).mono ?_; rintro e w' ⟨rfl, hw⟩; have hw2 := hw.symm; subst hw2; clear hw)
    go_ret
    exact ⟨by rw [HE.out]; rfl, (Below.refl _ w).alloc (Nat.le_refl _) _⟩
   ·have HE : Hid (leafE (s, 0, true) = 0) := leafE_zero.2 ⟨h0, Or.inl rfl, Or.inr rfl⟩
    clear h0
    go_enter Tryz.func138, Tryz.ntmps138
    go_wp2_with (go_at_call 139; refine (C _).mono ?_; rintro e w' ⟨rfl, hw⟩; have hw2 := hw.symm; subst hw2; clear hw)
    go_ret
    exact ⟨by rw [HE.out]; rfl, (Below.refl _ w).alloc (Nat.le_refl _) _⟩
  ·have hnb : (n != 0) = true := by simpa using hn0
   cases hl : isL n
   ·have HE : Hid (leafE (s, n, b) = 1) := by unfold Hid leafE; rw [if_neg (by simpa using h0), if_pos ⟨hn0, hl⟩]
    have HL := z9 hl
    clear h0 hl
    go_enter Tryz.func138, Tryz.ntmps138
    go_wp2_with (first | (go_at_call 139; refine (C _).mono ?_; rintro e w' ⟨rfl, hw⟩; have hw2 := hw.symm; subst hw2; clear hw) | (go_at_call 122; refine (isLetter_any n _).mono ?_; rintro e w' ⟨rfl, hw⟩; have hw2 := hw.symm; subst hw2; clear hw; rw [HL.out]))
    go_ret
    exact ⟨by rw [HE.out]; rfl, (Below.refl _ w).alloc (Nat.le_refl _) _⟩
   ·have HE : Hid (leafE (s, n, b) = 0) := leafE_zero.2 ⟨h0, Or.inr hl, Or.inl hn0⟩
    have HL := z9 hl
    clear h0 hl
    go_enter Tryz.func138, Tryz.ntmps138
    go_wp2_with (first | (go_at_call 139; refine (C _).mono ?_; rintro e w' ⟨rfl, hw⟩; have hw2 := hw.symm; subst hw2; clear hw) | (go_at_call 122; refine (isLetter_any n _).mono ?_; rintro e w' ⟨rfl, hw⟩; have hw2 := hw.symm; subst hw2; clear hw; rw [HL.out]))
    go_ret
    exact ⟨by rw [HE.out]; rfl, (Below.refl _ w).alloc (Nat.le_refl _) _⟩
 ·have HE : Hid (leafE (s, n, b) = Pm.chk s.toList) := by unfold Hid leafE; rw [if_pos h0]
  obtain ⟨k, hk⟩ : ∃ k, k = Pm.chk s.toList := ⟨_, rfl⟩
  have HV : Hid (errV (Pm.chk s.toList) = .iface 84 (.int .i64 k)) := by rw [hk]; exact errV_ne h0
  have C2 : ∀ w, Calls Tryz.prog 139 #[.string s] w fun e w' => e = .returned (.iface 84 (.int .i64 k)) ∧ w' = w := by rw [← HV.out]; exact C
  clear h0 hk C
  go_enter Tryz.func138, Tryz.ntmps138
  go_wp2_with (go_at_call 139; refine (C2 _).mono ?_; rintro e w' ⟨rfl, hw⟩; have hw2 := hw.symm; subst hw2; clear hw)
  go_ret
  exact ⟨by rw [HE.out, HV.out]; rfl, (Below.refl _ w).alloc (Nat.le_refl _) _⟩
end Lb
end Go.Proofs.YtlmdchpbpgcfmaaGreatDoor
/- What book.Check and book.checkWith answer, at every book. -/
namespace Go.Proofs.YtlmdchpbpgcfmaaGreatDoor
namespace Lc
open Go.ChangeShapes Go.WideShapes Go.ChangeAt Go.RowKit Bm Ka Kb La Lb
theorem empty_list:ByteArray.empty.toList=[]:=ByteArray.toList_mk []
theorem drop_at {l:List Leaf} {k:Nat} (hk:k<l.length):l.drop k=l.getD k none0::l.drop (k+1):=by
 rw[List.drop_eq_getElem_cons hk,List.getD_eq_getElem?_getD,List.getElem?_eq_getElem hk];rfl
/- the cells of a leaf of the call's own -/
theorem new_cell {w w2:World} {x:Leaf} {t:TypeId} (hb:Below (w.alloc (.cells #[.string x.1,.int .i64 x.2.1,.bool x.2.2] t)).heap.size (w.alloc (.cells #[.string x.1,.int .i64 x.2.1,.bool x.2.2] t)) w2):
  w2.cell? ⟨w.heap.size,0,none⟩=some (.string x.1)∧w2.cell? ⟨w.heap.size,1,none⟩=some (.int .i64 x.2.1)∧w2.cell? ⟨w.heap.size,2,none⟩=some (.bool x.2.2):=by
 have hlt:w.heap.size<(w.alloc (.cells #[.string x.1,.int .i64 x.2.1,.bool x.2.2] t)).heap.size:=by simp
 have h2:(w.alloc (.cells #[.string x.1,.int .i64 x.2.1,.bool x.2.2] t)).heap[w.heap.size]? =some (.cells #[.string x.1,.int .i64 x.2.1,.bool x.2.2] t):=heap_alloc_new w _
 refine⟨(hb.cell (p:=⟨w.heap.size,0,none⟩) hlt).trans ?_,(hb.cell (p:=⟨w.heap.size,1,none⟩) hlt).trans ?_,(hb.cell (p:=⟨w.heap.size,2,none⟩) hlt).trans ?_⟩<;>(simp only[World.cell?,h2];rfl)
theorem bel_new {w wr w2:World} {o:Obj} (h:Below w.heap.size w wr) (hb:Below (wr.alloc o).heap.size (wr.alloc o) w2):Below w.heap.size w w2:=bel (h.alloc h.size o) hb
theorem check_book (p:Option Addr) (n c:Nat) (l:List Leaf) (w:World) (hl:l.length=n) (h:LeafsIn w p l) (hs:∀x ∈ l,x.1.size≤maxLen) (hn:n≤maxLen):
  Calls Tryz.prog 93 #[.slice p n c] w fun e w'=>e=.returned (errV (bookE l))∧Below w.heap.size w w':=by
 unfold maxLen at hn
 by_cases h300:300<n
 ·have HE:Hid (bookE l=4):=by unfold Hid bookE;rw[hl,if_pos h300]
  have hz:(300:Int)<n:=by omega
  clear hl h hs
  go_enter Tryz.func93,Tryz.ntmps93
  go_wp2
  go_ret
  exact⟨by rw[HE.out];rfl,Below.refl _ _⟩
 ·have HE:Hid (bookE l=goes [] l):=by unfold Hid bookE;rw[hl,if_neg h300]
  have hz:¬(300:Int)<n:=by omega
  have HL:=z9 hl
  have HI:=z9 h
  have HS:=z9 hs
  clear hl h hs
  go_enter Tryz.func93,Tryz.ntmps93
  go_wp2
  go_loopw [3,5,6,13] (fun a _ _ i wr=>∃(k:Nat) (s:ByteArray),k≤n∧i=.int .i64 k∧a=.string s∧Hid (goes s.toList (l.drop k)=goes [] l)∧Hid (Below w.heap.size w wr)) (fun _ _ _ i _=>n-(intOf i).toNat)
  case atStart=>exact⟨0,ByteArray.empty,by omega,rfl,rfl,by unfold Hid;rw[List.drop_zero,empty_list],Below.refl _ _⟩
  case round=>
   obtain⟨k,s,hk,rfl,rfl,HG,HB⟩:=hrel
   by_cases hlt:k<n
   ·have hltz:(k:Int)<n:=by omega
    obtain⟨b,o,rfl,hc⟩:=HI.out.some (by intro e;have:=HL.out;rw[e] at this;simp at this;omega)
    have hkl:k<l.length:=by rw[HL.out];exact hlt
    have ha:=(hc k hkl).below HB.out (hc k hkl).lt
    have hss:=HS.out _ (getD_mem hkl)
    obtain⟨x,hx⟩:∃x,x=l.getD k none0:=⟨_,rfl⟩
    rw[←hx] at ha hss
    have HX:=z9 hx
    obtain⟨sx,nx,bx⟩:=x
    obtain⟨a1,a2,a3⟩:=ha
    clear hc hx
    simp only at a1 a2 a3 hss
    have HD:Hid (goes s.toList (l.drop k)=if leafE (sx,nx,bx)≠0 then leafE (sx,nx,bx) else if Op.bytesLess s.toList sx.toList=false then 7 else goes sx.toList (l.drop (k+1))):=by
     unfold Hid;rw[drop_at hkl,←HX.out];rfl
    have C:=checkLeaf_any sx nx bx (wr.alloc (.cells #[.string sx,.int .i64 nx,.bool bx] 53)) hss
    by_cases h0:leafE (sx,nx,bx)=0
    ·rw[h0,errV_zero] at C
     have HD2:Hid (goes [] l=if Op.bytesLess s.toList sx.toList=false then 7 else goes sx.toList (l.drop (k+1))):=by
      unfold Hid;rw[←HG.out,HD.out,if_neg (by simpa using h0)]
     clear HD h0 hss
     cases hr:Op.bytesLess s.toList sx.toList
     ·rw[hr] at HD2
      have HQ:Hid (errV (bookE l)=.iface 84 (.int .i64 7)):=by
       unfold Hid;rw[HE.out,HD2.out,if_pos rfl];rfl
      have HR:Hid (Op.bytesLess sx.toList s.toList=true∨sx.toList=s.toList):=by
       by_cases e:s.toList=sx.toList
       ·exact Or.inr e.symm
       ·exact Or.inl (less_total hr e)
      clear HD2 hr
      go_wp2_with fail
      refine C.mono ?_
      rintro e w2 ⟨rfl,hb2⟩
      have HB2:=z9 (bel_new HB.out hb2)
      have d1:=(new_cell (x:=(sx,nx,bx)) hb2).1
      simp only at d1
      clear hb2 C a1 a2 a3
      go_wp2_with fail
      ·go_ret
       exact⟨by rw[HQ.out];rfl,HB2.out⟩
      ·rename_i hx
       exfalso
       rcases HR.out with e | e
       ·rw[e] at hx;exact absurd hx.1 (by decide)
       ·rw[e] at hx;simp at hx
     ·rw[hr] at HD2
      have hr1:Op.bytesLess sx.toList s.toList=false:=less_asymm hr
      have hr2:(sx.toList==s.toList)=false:=by
       rw[beq_eq_false_iff_ne];intro e;rw[e,less_irrefl] at hr;cases hr
      have HG2:Hid (goes sx.toList (l.drop (k+1))=goes [] l):=by unfold Hid;rw[HD2.out,if_neg (by decide)]
      clear HD2 hr
      go_wp2_with fail
      refine C.mono ?_
      rintro e w2 ⟨rfl,hb2⟩
      have HB2:=z9 (bel_new HB.out hb2)
      have d1:=(new_cell (x:=(sx,nx,bx)) hb2).1
      simp only at d1
      clear hb2 C a1 a2 a3
      go_wp2_with fail
      go_roundw
      case rel=>exact⟨k+1,sx,by omega,by go_num,rfl,HG2,HB2⟩
      case measure=>simp[intOf];omega
    ·obtain⟨q,hq⟩:∃q,q=leafE (sx,nx,bx):=⟨_,rfl⟩
     have HQ:Hid (errV (bookE l)=.iface 84 (.int .i64 q)):=by
      unfold Hid;rw[HE.out,←HG.out,HD.out,if_pos h0,hq,errV_ne h0]
     rw[errV_ne h0,←hq] at C
     clear HD h0 hss hq
     go_wp2_with fail
     refine C.mono ?_
     rintro e w2 ⟨rfl,hb2⟩
     have HB2:=z9 (bel_new HB.out hb2)
     clear hb2 C
     go_wp2_with fail
     go_ret
     exact⟨by rw[HQ.out];rfl,HB2.out⟩
   ·obtain rfl:k=n:=by omega
    have HZ:Hid (goes [] l=0):=by
     unfold Hid;rw[←HG.out,List.drop_of_length_le (by rw[HL.out];exact Nat.le_refl _)];rfl
    go_wp2_with fail
    go_ret
    exact⟨by rw[HE.out,HZ.out];rfl,HB.out⟩
theorem checkWith_any (p:Option Addr) (n c:Nat) (l:List Leaf) (s:ByteArray) (w:World) (hl:l.length=n) (h:LeafsIn w p l) (hs:∀x ∈ l,x.1.size≤maxLen) (hn:n≤maxLen) (hp:s.size≤maxLen):
  Calls Tryz.prog 98 #[.slice p n c,.string s] w fun e w'=>e=.returned (errV (withE l s))∧Below w.heap.size w w':=by
 have C:=check_book p n c l w hl h hs hn
 have C2:=fun w=>check_any s w hp
 clear hl h hs hn hp
 by_cases h0:bookE l=0
 ·rw[h0,errV_zero] at C
  have HE:Hid (withE l s=Pm.chk s.toList):=by unfold Hid withE;rw[if_neg (by simpa using h0)]
  clear h0
  go_enter Tryz.func98,Tryz.ntmps98
  go_wp2_with fail
  refine C.mono ?_
  rintro e w2 ⟨rfl,hb2⟩
  have HB2:=z9 hb2
  clear hb2 C
  go_wp2_with fail
  refine(C2 _).mono ?_
  rintro e w3 ⟨rfl,hw⟩
  have hw2:=hw.symm;subst hw2;clear hw C2
  go_wp2_with fail
  go_ret
  exact⟨by rw[HE.out];rfl,HB2.out⟩
 ·obtain⟨q,hq⟩:∃q,q=bookE l:=⟨_,rfl⟩
  have HE:Hid (errV (withE l s)=.iface 84 (.int .i64 q)):=by unfold Hid withE;rw[if_pos h0,hq,errV_ne h0]
  rw[errV_ne h0,←hq] at C
  clear h0 hq C2
  go_enter Tryz.func98,Tryz.ntmps98
  go_wp2_with fail
  refine C.mono ?_
  rintro e w2 ⟨rfl,hb2⟩
  have HB2:=z9 hb2
  clear hb2 C
  go_wp2_with fail
  go_ret
  exact⟨by rw[HE.out];rfl,HB2.out⟩
end Lc
end Go.Proofs.YtlmdchpbpgcfmaaGreatDoor
/- What strings.Compare and book.Find answer. -/
namespace Go.Proofs.YtlmdchpbpgcfmaaGreatDoor
namespace Ld
open Go.ChangeShapes Go.WideShapes Go.ChangeAt Go.RowKit Bm Ka Kb La Lb Lc
/- below: -1; the same: 0; above: 1 -/
def cmp (a b:ByteArray):Int:=Lib.compareBytes a.data.toList b.data.toList
theorem cmpL_less:∀a b:List UInt8,(Lib.compareBytes a b<0↔Op.bytesLess a b=true)∧(Lib.compareBytes a b=0↔a=b)
 | [],[]=>by simp[Lib.compareBytes,Op.bytesLess]
 | [],_::_=>by simp[Lib.compareBytes,Op.bytesLess]
 | _::_,[]=>by simp[Lib.compareBytes,Op.bytesLess]
 | x::a,y::b=>by
  obtain⟨h1,h2⟩:=cmpL_less a b
  unfold Lib.compareBytes
  by_cases hlt:x<y
  ·rw[if_pos hlt]
   have hne:x≠y:=by rintro rfl;exact absurd hlt (UInt8.lt_irrefl x)
   simp[Op.bytesLess,hlt,hne]
  ·rw[if_neg hlt]
   by_cases hgt:y<x
   ·rw[if_pos hgt]
    have hne:x≠y:=by rintro rfl;exact absurd hgt (UInt8.lt_irrefl x)
    simp[Op.bytesLess,hlt,hne]
   ·rw[if_neg hgt]
    have e:x=y:=UInt8.le_antisymm (UInt8.not_lt.1 hgt) (UInt8.not_lt.1 hlt)
    subst e
    constructor
    ·rw[h1];simp[Op.bytesLess,hlt]
    ·rw[h2];simp
theorem cmp_lt (a b:ByteArray):cmp a b<0↔Op.bytesLess a.toList b.toList=true:=by
 unfold cmp;rw[ByteArray.toList_eq,ByteArray.toList_eq];exact(cmpL_less _ _).1
theorem cmp_eq (a b:ByteArray):cmp a b=0↔a.toList=b.toList:=by
 unfold cmp;rw[ByteArray.toList_eq,ByteArray.toList_eq];exact(cmpL_less _ _).2
theorem entry (args:Array Value) (w:World):(callFunc 140 args).run Tryz.prog w=((Extern.BytealgCompare.compare args).run Tryz.prog w).andThen fun v w'=> .ok (.value v) w':=
 run_callFunc_extern Tryz.func140 (by kernel_rfl) (by kernel_rfl) (by kernel_rfl) (by kernel_rfl) args w
theorem entry2 (a b:ByteArray) (w:World):(callFunc 140 #[.string a,.string b]).run Tryz.prog w=.ok (.value (.int .i64 (cmp a b))) w:=by
 rw[entry,Lib.run_compareString];rfl
theorem compare_any (a b:ByteArray) (w:World):
  Calls Tryz.prog 54 #[.string a,.string b] w fun e w'=>e=.returned (.int .i64 (cmp a b))∧w'=w:=by
 have he:=entry2
 go_enter Tryz.func54,Tryz.ntmps54
 go_wp2
 go_ret
 exact⟨rfl,rfl⟩
theorem closure_any (s:ByteArray) (n:Int) (b:Bool) (p:ByteArray) (w:World):
  Calls Tryz.prog 53 #[.agg #[.string s,.int .i64 n,.bool b],.string p] w fun e w'=>e=.returned (.int .i64 (cmp s p))∧Below w.heap.size w w':=by
 go_enter Tryz.func53,Tryz.ntmps53
 go_wp2_with (go_at_call 54;refine(compare_any s p _).mono ?_;rintro e w' ⟨rfl,hw⟩;have hw2:=hw.symm;subst hw2;clear hw)
 go_ret
 exact⟨rfl,(Below.refl _ w).alloc (Nat.le_refl _) _⟩
theorem search_any (q:Option Addr) (n c:Nat) (l:List Leaf) (p:ByteArray) (w:World) (hl:l.length=n) (h:LeafsIn w q l) (hr:Rise l) (hn:n≤1048576):
  Calls Tryz.prog 52 #[.slice q n c,.string p,.func (.func 53) #[] #[]] w fun e w'=>e=.returned (.tuple #[.int .i64 (ahd l p.toList),.bool (has l p.toList)])∧Below w.heap.size w w':=by
 have HL:=z9 hl
 have HI:=z9 h
 have HR:=z9 hr
 clear hl h hr
 go_enter Tryz.func52,Tryz.ntmps52
 go_wp2
 go_loopw [9,10,11] (fun vi vj _ wr=>∃(i j:Nat),i≤j∧j≤n∧vi=.int .i64 i∧vj=.int .i64 j∧Hid (∀k,k<i→Op.bytesLess (l.getD k none0).1.toList p.toList=true)∧Hid (∀k,j≤k→k<n→Op.bytesLess (l.getD k none0).1.toList p.toList=false)∧Hid (Below w.heap.size w wr)) (fun vi vj _ _=>(intOf vj).toNat-(intOf vi).toNat)
 case atStart=>exact⟨0,n,by omega,by omega,rfl,rfl,fun k hk=>absurd hk (by omega),fun k h1 h2=>absurd h1 (by omega),Below.refl _ _⟩
 case round=>
  obtain⟨i,j,hij,hjn,rfl,rfl,H1,H2,HB⟩:=hrel
  by_cases hlt:i<j
  ·have hltz:(i:Int)<j:=by omega
   obtain⟨m,hm⟩:∃m:Nat,((i:Int)+j)/2=m:=⟨(i+j)/2,by omega⟩
   have him:i≤m:=by omega
   have hmj:m<j:=by omega
   obtain⟨b,o,rfl,hc⟩:=HI.out.some (by intro e;have:=HL.out;rw[e] at this;simp at this;omega)
   have hml:m<l.length:=by rw[HL.out];omega
   have ha:=(hc m hml).below HB.out (hc m hml).lt
   obtain⟨x,hx⟩:∃x,x=l.getD m none0:=⟨_,rfl⟩
   rw[←hx] at ha
   have HX:=z9 hx
   obtain⟨sx,nx,bx⟩:=x
   obtain⟨a1,a2,a3⟩:=ha
   have hmn:(m:Int)<n:=by omega
   clear hc hx
   simp only at a1 a2 a3
   have C:=closure_any sx nx bx p wr
   have HCL:=z9 (cmp_lt sx p)
   obtain⟨q,hq⟩:∃q,q=cmp sx p:=⟨_,rfl⟩
   rw[←hq] at C HCL
   clear hq
   by_cases hz:q<0
   ·have H3:Hid (∀k,k<m+1→Op.bytesLess (l.getD k none0).1.toList p.toList=true):=by
     have h9:=HCL.out.1 hz
     have e9:(l.getD m none0).1=sx:=by rw[←HX.out]
     rw[←e9] at h9
     intro k hk
     rcases Nat.lt_succ_iff_lt_or_eq.1 hk with h | rfl
     ·exact less_trans (rise_lt HR.out h hml) h9
     ·exact h9
    go_wp2_with fail
    refine C.mono ?_
    rintro e w2 ⟨rfl,hb2⟩
    have HB2:=z9 (bel HB.out hb2)
    clear hb2 C
    go_wp2_with fail
    go_roundw
    case rel=>exact⟨m+1,j,by omega,by omega,by go_num,rfl,H3,H2,HB2⟩
    case measure=>simp[intOf];omega
   ·have H3:Hid (∀k,m≤k→k<n→Op.bytesLess (l.getD k none0).1.toList p.toList=false):=by
     have h9:Op.bytesLess sx.toList p.toList=false:=by
      cases h8:Op.bytesLess sx.toList p.toList
      ·rfl
      ·exact absurd (HCL.out.2 h8) hz
     have e9:(l.getD m none0).1=sx:=by rw[←HX.out]
     rw[←e9] at h9
     intro k hk hk2
     rcases Nat.lt_or_eq_of_le hk with h | rfl
     ·cases h8:Op.bytesLess (l.getD k none0).1.toList p.toList
      ·rfl
      ·rw[less_trans (rise_lt HR.out h (by rw[HL.out];exact hk2)) h8] at h9;cases h9
     ·exact h9
    go_wp2_with fail
    refine C.mono ?_
    rintro e w2 ⟨rfl,hb2⟩
    have HB2:=z9 (bel HB.out hb2)
    clear hb2 C
    go_wp2_with fail
    go_roundw
    case rel=>exact⟨i,m,by omega,by omega,rfl,by go_num,H1,H3,HB2⟩
    case measure=>simp[intOf];omega
  ·obtain rfl:i=j:=by omega
   have HA:=z9 (ahead_eq HR.out (by rw[HL.out];exact hjn) H1.out (fun k h1 h2=>H2.out k h1 (by rw[←HL.out];exact h2)))
   by_cases hin:i<n
   ·have hinz:(i:Int)<n:=by omega
    obtain⟨b,o,rfl,hc⟩:=HI.out.some (by intro e;have:=HL.out;rw[e] at this;simp at this;omega)
    have hil:i<l.length:=by rw[HL.out];omega
    have ha:=(hc i hil).below HB.out (hc i hil).lt
    obtain⟨x,hx⟩:∃x,x=l.getD i none0:=⟨_,rfl⟩
    rw[←hx] at ha
    have HX:=z9 hx
    obtain⟨sx,nx,bx⟩:=x
    obtain⟨a1,a2,a3⟩:=ha
    clear hc hx
    simp only at a1 a2 a3
    have C:=closure_any sx nx bx p wr
    have HH:Hid (has l p.toList=(cmp sx p==0)):=by
     unfold Hid has
     rw[HA.out,decide_eq_true (by rw[HL.out];exact hin),Bool.true_and,←HX.out,Bool.eq_iff_iff,beq_iff_eq,beq_iff_eq,cmp_eq]
    obtain⟨q,hq⟩:∃q,q=cmp sx p:=⟨_,rfl⟩
    rw[←hq] at C HH
    clear hq
    go_wp2_with fail
    refine C.mono ?_
    rintro e w2 ⟨rfl,hb2⟩
    have HB2:=z9 (bel HB.out hb2)
    clear hb2 C
    go_wp2_with fail
    go_ret2
    exact⟨by rw[HA.out,HH.out];rfl,HB2.out⟩
   ·have hinz:¬(i:Int)<n:=by omega
    have HH:Hid (has l p.toList=false):=by
     unfold Hid has;rw[HA.out,decide_eq_false (by rw[HL.out];exact hin)];rfl
    go_wp2_with fail
    go_ret2
    exact⟨by rw[HA.out,HH.out];rfl,HB.out⟩
theorem find_any (q:Option Addr) (n c:Nat) (l:List Leaf) (p:ByteArray) (w:World) (hl:l.length=n) (h:LeafsIn w q l) (hr:Rise l) (hn:n≤1048576):
  Calls Tryz.prog 19 #[.slice q n c,.string p] w fun e w'=>e=.returned (.tuple #[.int .i64 (ahd l p.toList),.bool (has l p.toList)])∧Below w.heap.size w w':=by
 have C:=search_any q n c l p w hl h hr hn
 clear hl h hr hn
 obtain⟨a,ha⟩:∃a,a=ahd l p.toList:=⟨_,rfl⟩
 obtain⟨b,hb⟩:∃b,b=has l p.toList:=⟨_,rfl⟩
 rw[←ha,←hb] at C ⊢
 clear ha hb
 go_enter Tryz.func19,Tryz.ntmps19
 go_wp2_with fail
 refine C.mono ?_
 rintro e w2 ⟨rfl,hb2⟩
 have HB2:=z9 hb2
 clear hb2 C
 go_wp2_with fail
 go_ret2
 exact⟨rfl,HB2.out⟩
end Ld
end Go.Proofs.YtlmdchpbpgcfmaaGreatDoor
/- What book.seenLetters, book.Text and book.Offset answer. -/
namespace Go.Proofs.YtlmdchpbpgcfmaaGreatDoor
namespace Le
open Go.ChangeShapes Go.WideShapes Go.ChangeAt Go.RowKit Bm Ka Kb La Lb Lc Ld
theorem infoByte:(Tryz.prog.info? 5).map (fun i=>(i.zero,i.size,i.bytes))=some (some (.int .u8 0),1,1):=by kernel_rfl
def bc (l:List UInt8):List Value:=l.map fun x=>Value.int .u8 (x.toNat:Int)
theorem own_text {w:World} {base:Nat} {v:Value} {l:List UInt8} (h:w.ownsRow base 5 1 v l.length (bc l)):(convert 178 9 v).run Tryz.prog w=.ok (.string ⟨l.toArray⟩) w:=by
 rcases h.2 with⟨rfl,h0⟩ | ⟨g,cap,cur,rfl,_,h2,h3,h4,h5,h6⟩
 ·rw[List.eq_nil_of_length_eq_zero h0]
  exact run_convert_bytes_nil (P:=Tryz.prog) (w:=w) 178 5 Tryz.underlying178 Tryz.underlying5 0 0 9 Tryz.underlying9
 ·refine run_convert_bytes_back (P:=Tryz.prog) w 178 9 5 ⟨g,0,none⟩ cap l Tryz.underlying178 Tryz.underlying5 Tryz.underlying9 ?_
  intro j hj
  have:=h.cells (g:=g) rfl j (.int .u8 (l[j].toNat:Int)) (by simp[bc,List.getElem?_eq_getElem hj])
  exact this
theorem own_one {w:World} {base:Nat} {t:TypeId} {v:Value} {tx:List UInt8} {c:UInt8} {nx:Int} (hc:(c.toNat:Int)=nx) (h:w.ownsRow base t 1 v (tx.length+1) (bc tx++[.int .u8 nx])):w.ownsRow base t 1 v (tx++[c]).length (bc (tx++[c])):=by
 have e:bc (tx++[c])=bc tx++[.int .u8 nx]:=by unfold bc;rw[List.map_append,←hc];rfl
 rw[e,List.length_append];exact h
theorem take_text {l:List Leaf} {k:Nat} (hk:k<l.length):text (l.take (k+1))=if isS (l.getD k none0) then text (l.take k)++[letter (l.getD k none0)] else text (l.take k):=by
 have e:l.take (k+1)=l.take k++[l.getD k none0]:=by
  rw[List.take_succ_eq_append_getElem hk,List.getD_eq_getElem?_getD,List.getElem?_eq_getElem hk];rfl
 rw[e,text_append,text_cons]
 split
 ·rfl
 ·simp[text]
theorem letters_any (q:Option Addr) (n c:Nat) (l:List Leaf) (w:World) (hl:l.length=n) (h:LeafsIn w q l) (ho:∀x ∈ l,x.2.1=0∨isL x.2.1=true) (hn:n≤1048576):
  Calls Tryz.prog 94 #[.slice q n c] w fun e w'=>e=.returned (.string ⟨(text l).toArray⟩)∧Below w.heap.size w w':=by
 have HL:=z9 hl
 have HI:=z9 h
 have HO:=z9 ho
 obtain⟨i0,hi,hz0,hz1,hz2⟩:=info_parts infoByte
 clear hl h ho
 go_enter Tryz.func94,Tryz.ntmps94
 go_wp2
 go_loopw [3,5,8] (fun v _ i wr=>∃(k:Nat),k≤n∧i=.int .i64 k∧Hid (wr.ownsRow w.heap.size 5 1 v (text (l.take k)).length (bc (text (l.take k))))∧Hid (Below w.heap.size w wr)) (fun _ _ i _=>n-(intOf i).toNat)
 case atStart=>exact⟨0,by omega,rfl,World.ownsRow_nil _ _ _ _,Below.refl _ _⟩
 case round=>
  obtain⟨k,hk,rfl,HW,HB⟩:=hrel
  by_cases hlt:k<n
  ·have hltz:(k:Int)<n:=by omega
   obtain⟨b,o,rfl,hc⟩:=HI.out.some (by intro e;have:=HL.out;rw[e] at this;simp at this;omega)
   have hkl:k<l.length:=by rw[HL.out];exact hlt
   have ha:=(hc k hkl).below HB.out (hc k hkl).lt
   have hoo:=HO.out _ (getD_mem hkl)
   have HT:=z9 (take_text hkl)
   have htl:(text (l.take k)).length≤1048576:=by
    have h1:=text_len_le (l.take k)
    rw[List.length_take] at h1
    omega
   obtain⟨x,hx⟩:∃x,x=l.getD k none0:=⟨_,rfl⟩
   rw[←hx] at ha hoo HT
   obtain⟨sx,nx,bx⟩:=x
   obtain⟨a1,a2,a3⟩:=ha
   clear hc hx
   simp only at a1 a2 a3 hoo
   have C:=isSeen_any sx nx bx (wr.alloc (.cells #[.string sx,.int .i64 nx,.bool bx] 53))
   obtain⟨tx,htx⟩:∃tx,tx=text (l.take k):=⟨_,rfl⟩
   rw[←htx] at HW HT htl
   cases hse:isS (sx,nx,bx)
   ·rw[hse] at C HT
    have HW2:Hid (wr.ownsRow w.heap.size 5 1 u3 (text (l.take (k+1))).length (bc (text (l.take (k+1))))):=by
     unfold Hid;rw[HT.out];exact HW.out
    clear hse htx hoo
    go_wp2_with fail
    refine C.mono ?_
    rintro e w2 ⟨rfl,hb2⟩
    have HB2:=z9 (bel_new HB.out hb2)
    have HW3:Hid (w2.ownsRow w.heap.size 5 1 u3 (text (l.take (k+1))).length (bc (text (l.take (k+1))))):=own_below (HW2.out.alloc _) hb2
    clear hb2 C a1 a2 a3
    go_wp2_with fail
    go_roundw
    case rel=>exact⟨k+1,by omega,by go_num,HW3,HB2⟩
    case measure=>simp[intOf];omega
   ·rw[hse] at C HT
    have hnx:isL nx=true:=by
     rcases hoo with e | e
     ·unfold isS at hse;rw[e] at hse;simp at hse
     ·exact e
    have hnb:=isL_ne hnx
    have HLT:=z9 (letter_nat (x:=(sx,nx,bx)) hnx)
    clear hse htx hoo hnx
    obtain⟨hnb1,hnb2,hnb3⟩:=hnb
    go_wp2_with fail
    refine C.mono ?_
    rintro e w2 ⟨rfl,hb2⟩
    have HB2:=z9 (bel_new HB.out hb2)
    have d2:=(new_cell (x:=(sx,nx,bx)) hb2).2.1
    simp only at d2
    have HW3:Hid (w2.ownsRow w.heap.size 5 1 u3 tx.length (bc tx)):=own_below (HW.out.alloc _) hb2
    clear hb2 C a1 a2 a3
    go_wp2_with (at_builtin;refine wpList_append_own_at _ rfl (.tmp 14) (.tmp 18) 178 rfl w.heap.size 5 i0 (.int .u8 0) 1 1 Tryz.underlying178 hi hz0 hz1 hz2 rfl (by decide) u3 _ _ rfl (HW3.out.alloc _) ⟨w2.heap.size,0,none⟩ 1 1 [.int .u8 nx] rfl rfl (cell_one_new _ _ _) (by intro u hu;simp at hu;subst hu;rfl) (by unfold maxLen;omega) (by omega) (by have:=HB2.out.size;simp;omega) ?_;intro v' w3 hown' hgrow _ hat;have HB3:Hid (Below w.heap.size w w3):=(own_grow HW3.out (HB2.out.alloc HB2.out.size _) hgrow (by have:=HB2.out.size;simp;omega));have HW4:Hid (w3.ownsRow w.heap.size 5 1 v' (text (l.take (k+1))).length (bc (text (l.take (k+1))))):=(by unfold Hid;rw[HT.out];exact own_one HLT.out hown');clear hown' hgrow hat)
    go_roundw
    case rel=>exact⟨k+1,by omega,by go_num,HW4,HB3⟩
    case measure=>simp[intOf];omega
  ·obtain rfl:k=n:=by omega
   have hcv:(convert 178 9 u3).run Tryz.prog wr=.ok (.string ⟨(text l).toArray⟩) wr:=by
    have:=own_text HW.out
    rwa [List.take_of_length_le (by rw[HL.out];exact Nat.le_refl _)] at this
   go_wp2_with fail
   go_ret
   exact⟨rfl,HB.out⟩
end Le
end Go.Proofs.YtlmdchpbpgcfmaaGreatDoor
/- What book.Text, book.Offset and book.At answer. -/
namespace Go.Proofs.YtlmdchpbpgcfmaaGreatDoor
namespace Lf
open Go.ChangeShapes Go.WideShapes Go.ChangeAt Go.RowKit Bm Ka Kb La Lb Lc Ld Le
def textR (l:List Leaf):ByteArray:=if bookE l=0 then⟨(text l).toArray⟩ else⟨#[]⟩
theorem book_ok {l:List Leaf} (h:bookE l=0):l.length≤300∧Rise l∧∀x ∈ l,x.2.1=0∨isL x.2.1=true:=by
 obtain⟨h1,h2,h3⟩:=bookE_zero.1 h
 exact⟨h1,h3,fun x hx=>(leafE_zero.1 (h2 x hx)).2.1⟩
theorem LeafsIn.take {w:World} {p:Option Addr} {l:List Leaf} (h:LeafsIn w p l) (i:Nat):LeafsIn w p (l.take i):=by
 rcases h with rfl | ⟨b,o,hp,hc⟩
 ·exact Or.inl (by simp)
 ·refine Or.inr ⟨b,o,hp,fun j hj=> ?_⟩
  rw[List.length_take] at hj
  have:(l.take i).getD j none0=l.getD j none0:=by
   rw[List.getD_eq_getElem?_getD,List.getD_eq_getElem?_getD,List.getElem?_take_of_lt (by omega)]
  rw[this];exact hc j (by omega)
theorem text_any (q:Option Addr) (n c:Nat) (l:List Leaf) (w:World) (hl:l.length=n) (h:LeafsIn w q l) (hs:∀x ∈ l,x.1.size≤maxLen) (hn:n≤maxLen):
  Calls Tryz.prog 48 #[.slice q n c] w fun e w'=>e=.returned (.tuple #[.string (textR l),errV (bookE l)])∧Below w.heap.size w w':=by
 have C:=check_book q n c l w hl h hs hn
 by_cases h0:bookE l=0
 ·have hk:=book_ok h0
  have HC2:Hid (∀w2,Below w.heap.size w w2→Calls Tryz.prog 94 #[.slice q n c] w2 fun e w'=>e=.returned (.string ⟨(text l).toArray⟩)∧Below w2.heap.size w2 w'):=fun w2 hb=>letters_any q n c l w2 hl (h.below hb) hk.2.2 (by omega)
  have HT:Hid (textR l=⟨(text l).toArray⟩):=by unfold Hid textR;rw[if_pos h0]
  have HE:Hid (errV (bookE l)=.nilIface):=by unfold Hid;rw[h0];rfl
  rw[HE.out] at C
  rw[HE.out,HT.out]
  clear hl h hs hn hk h0 HT HE
  go_enter Tryz.func48,Tryz.ntmps48
  go_wp2_with fail
  refine C.mono ?_
  rintro e w2 ⟨rfl,hb2⟩
  have HB2:=z9 hb2
  have C2:=HC2.out w2 hb2
  clear hb2 C
  go_wp2_with fail
  refine C2.mono ?_
  rintro e w3 ⟨rfl,hb3⟩
  have HB3:=z9 (bel HB2.out hb3)
  clear hb3 C2
  go_wp2_with fail
  go_ret2
  exact⟨rfl,HB3.out⟩
 ·obtain⟨k,hk⟩:∃k,k=bookE l:=⟨_,rfl⟩
  have HT:Hid (textR l=⟨#[]⟩):=by unfold Hid textR;rw[if_neg h0]
  have HE:Hid (errV (bookE l)=.iface 84 (.int .i64 k)):=by unfold Hid;rw[errV_ne h0,hk]
  rw[HE.out] at C
  rw[HE.out,HT.out]
  clear hl h hs hn h0 hk HT HE
  go_enter Tryz.func48,Tryz.ntmps48
  go_wp2_with fail
  refine C.mono ?_
  rintro e w2 ⟨rfl,hb2⟩
  have HB2:=z9 hb2
  clear hb2 C
  go_wp2_with fail
  go_ret2
  exact⟨rfl,HB2.out⟩
/- the closure by which book.At seeks: it counts those that are seen in a variable of its own -/
theorem nth_drop {l:List Leaf} {k:Nat} (hk:k<l.length) (r:Int):nth (l.drop k) k r=if isS (l.getD k none0) then(if r=0 then(k:Int) else nth (l.drop (k+1)) (k+1) (r-1)) else nth (l.drop (k+1)) (k+1) r:=by
 rw[drop_at hk];rfl
end Lf
end Go.Proofs.YtlmdchpbpgcfmaaGreatDoor
/- What book.At answers, and book.leafAt. -/
namespace Go.Proofs.YtlmdchpbpgcfmaaGreatDoor
namespace Lg
open Go.ChangeShapes Go.WideShapes Go.ChangeAt Go.RowKit Bm Ka Kb La Lb Lc Ld Le Lf
theorem new_cold {w w2:World} {c:Array Value} {t:TypeId} (hb:Below (w.alloc (.cells c t)).heap.size (w.alloc (.cells c t)) w2) (j:Nat):w2.frozen? ⟨w.heap.size,j,none⟩=false:=by
 have hlt:w.heap.size<(w.alloc (.cells c t)).heap.size:=by simp
 have h2:(w.alloc (.cells c t)).heap[w.heap.size]? =some (.cells c t):=heap_alloc_new w _
 rw[hb.frozen (p:=⟨w.heap.size,j,none⟩) hlt]
 simp only[World.frozen?,h2];simp
theorem old_one (w:World) (o:Obj) (a:Addr) (v:Value) (h:w.cell? a=some v):(w.alloc o).cell? a=some v:=by
 rw[World.cell?_alloc_old _ _ _ (Nat.ne_of_lt (World.block_lt_of_cell? _ _ h))];exact h
theorem leafAt_any (q:Option Addr) (n c:Nat) (l:List Leaf) (p:ByteArray) (w:World) (hl:l.length=n) (h:LeafsIn w q l) (hr:Rise l) (hn:n≤1048576):
  Calls Tryz.prog 178 #[.slice q n c,.string p] w fun e w'=>e=.returned (aggL (leafAt l p))∧Below w.heap.size w w':=by
 have hb1:∀o,Below w.heap.size w (w.alloc o):=fun o=>(Below.refl _ w).alloc (Nat.le_refl _) _
 have C:=fun o=>find_any q n c l p (w.alloc o) hl (h.below (hb1 o)) hr hn
 have HB1:=z9 hb1
 clear hb1
 cases hh:has l p.toList
 ·rw[hh] at C
  have HX:Hid (leafAt l p=(p,0,false)):=by unfold Hid leafAt;rw[hh];rfl
  rw[HX.out]
  obtain⟨i,hi⟩:∃i,i=ahd l p.toList:=⟨_,rfl⟩
  rw[←hi] at C
  clear hl h hr hn hh HX hi
  go_enter Tryz.func178,Tryz.ntmps178
  go_wp2_with fail
  refine(C _).mono ?_
  rintro e w2 ⟨rfl,hb2⟩
  have HB2:Hid (Below w.heap.size w w2):=bel (HB1.out _) hb2
  have d:=new_cell (x:=(⟨#[]⟩,0,false)) hb2
  simp only at d
  obtain⟨d0,d1,d2⟩:=d
  have f0:=new_cold hb2 0
  have f1:=new_cold hb2 1
  have f2:=new_cold hb2 2
  clear C hb2
  go_wp2_with fail
  refine bodyPost_ret (v:=aggL (p,0,false)) ?_ rfl ⟨rfl, ?_⟩
  ·simp[results,Tryz.results178,aggL,go_sem,asAddr,Result.andThen,d0,d1,d2]
  ·exact((HB2.out.setCell (p:=⟨w.heap.size,0,none⟩) (Nat.le_refl _) _).setCell (p:=⟨w.heap.size,1,none⟩) (Nat.le_refl _) _).setCell (p:=⟨w.heap.size,2,none⟩) (Nat.le_refl _) _
 ·rw[hh] at C
  have hin:ahd l p.toList<l.length:=by unfold has at hh;rw[Bool.and_eq_true,decide_eq_true_eq] at hh;exact hh.1
  have HX:Hid (leafAt l p=l.getD (ahd l p.toList) none0):=by unfold Hid leafAt;rw[hh];rfl
  rw[HX.out]
  obtain⟨i,hi⟩:∃i,i=ahd l p.toList:=⟨_,rfl⟩
  rw[←hi] at C hin ⊢
  obtain⟨b,o,rfl,hc⟩:=h.some (by rintro rfl;simp at hin)
  have hci:=hc i hin
  obtain⟨x,hx⟩:∃x,x=l.getD i none0:=⟨_,rfl⟩
  rw[←hx] at hci ⊢
  obtain⟨sx,nx,bx⟩:=x
  have HCI:=z9 hci
  have hinz:(i:Int)<n:=by omega
  clear hl h hr hh HX hi hc hx hci hin
  go_enter Tryz.func178,Tryz.ntmps178
  go_wp2_with fail
  refine(C _).mono ?_
  rintro e w2 ⟨rfl,hb2⟩
  have HB2:Hid (Below w.heap.size w w2):=bel (HB1.out _) hb2
  have d:=new_cell (x:=(⟨#[]⟩,0,false)) hb2
  simp only at d
  obtain⟨d0,d1,d2⟩:=d
  have f0:=new_cold hb2 0
  have f1:=new_cold hb2 1
  have f2:=new_cold hb2 2
  obtain⟨a1,a2,a3⟩:=HCI.out.below HB2.out HCI.out.lt
  simp only at a1 a2 a3
  clear C hb2
  go_wp2_with fail
  refine bodyPost_ret (v:=aggL (sx,nx,bx)) ?_ rfl ⟨rfl, ?_⟩
  ·simp[results,Tryz.results178,aggL,go_sem,asAddr,Result.andThen,d0,d1,d2]
  ·exact((HB2.out.setCell (p:=⟨w.heap.size,0,none⟩) (Nat.le_refl _) _).setCell (p:=⟨w.heap.size,1,none⟩) (Nat.le_refl _) _).setCell (p:=⟨w.heap.size,2,none⟩) (Nat.le_refl _) _
end Lg
end Go.Proofs.YtlmdchpbpgcfmaaGreatDoor
