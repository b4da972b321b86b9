import Derived.Test.YtlmdchpbpgcfmaaGreatDoorRows
import Derived.Test.YtlmdchpbpgcfmaaGreatDoorJ1
import Derived.WalkKit
import Derived.WalkLawsBesides
import Derived.WalkSpells
import Derived.ProofKit
import Derived.OpenShut
import Derived.Test.YtlmdchpbpgcfmaaGreatDoorP1
import Derived.Maps.AppendAt
set_option linter.unusedVariables false
set_option maxRecDepth 100000
set_option maxHeartbeats 8000000
/- What each small function of package place answers, at every input, said by the functions of Pm. -/
namespace Go.Proofs.YtlmdchpbpgcfmaaGreatDoor
namespace Pa
open Go.ChangeShapes Go.WideShapes Go.ChangeAt Go.RowKit
theorem ret_bool {a b:Bool} (h:a=b):Ending.returned (.bool a)=.returned (.bool b):=by rw[h]
theorem ret_int {k:IntKind} {a b:Int} (h:a=b):Ending.returned (.int k a)=.returned (.int k b):=by rw[h]
/- an error of package api: nil for 0 -/
def errV (n:Int):Value:=if n=0 then .nilIface else .iface 84 (.int .i64 n)
theorem isAuthor_any (n:Int) (w:World):
  Calls Tryz.prog 136 #[.int .i64 n] w fun e w'=>e=.returned (.bool (Pm.isWho n))∧w'=w:=by
 go_enter Tryz.func136,Tryz.ntmps136
 go_wp2
 all_goals
  go_ret
  exact⟨ret_bool (by first | (simp[Pm.isWho, *];done) | (simp only[Pm.isWho];rw[decide_eq_false (by omega)];rfl)),rfl⟩
theorem last_eq (s:ByteArray) (h:0<s.size):s.toList.getLast?.getD 0=s[s.size-1]'(by omega):=by
 rw[ByteArray.toList_eq,List.getLast?_eq_getElem?]
 have:s.data.toList.length=s.size:=rfl
 rw[this,List.getElem?_eq_getElem (by rw[this];omega)]
 rfl
theorem authorOf_any (s:ByteArray) (w:World) (h:0<s.size) (hs:s.size≤maxLen):
  Calls Tryz.prog 174 #[.string s] w fun e w'=>e=.returned (.int .i64 (Pm.whoOf s.toList))∧w'=w:=by
 have hl:=last_eq s h
 have hb:(s[s.size-1]'(by omega)).toNat<256:=UInt8.toNat_lt _
 have H:Hid (Pm.whoOf s.toList=((s[s.size-1]'(by omega)).toNat:Int)-97):=by
  unfold Pm.whoOf Hid;rw[hl]
 clear hl
 unfold maxLen at hs
 go_enter Tryz.func174,Tryz.ntmps174
 go_wp2
 go_ret
 refine⟨ret_int ?_,rfl⟩
 rw[H.out]
theorem inside_no {t a b:List UInt8} (h:¬(Op.bytesLess t a=false∧¬t=a)):false=Pm.inside t a b:=by
 unfold Pm.inside
 by_cases h1:Op.bytesLess t a=false
 ·have h2:t=a:=by
   by_cases h3:t=a
   ·exact h3
   ·exact absurd ⟨h1,h3⟩ h
  subst h2;simp
 ·simp at h1;simp[h1]
theorem inside_yes {t a b:List UInt8} (h:Op.bytesLess t a=false∧¬t=a):(!t==a&&(b.isEmpty||Op.bytesLess t b))=Pm.inside t a b:=by
 unfold Pm.inside;rw[h.1];simp
theorem inside_all {t a b:List UInt8} (h:Op.bytesLess t a=false∧¬t=a) (hb:b=[]):(!t==a)=Pm.inside t a b:=by
 unfold Pm.inside;rw[h.1,hb];simp
theorem isInside_any (t a b:ByteArray) (w:World):
  Calls Tryz.prog 210 #[.string t,.string a,.string b] w fun e w'=>e=.returned (.bool (Pm.inside t.toList a.toList b.toList))∧w'=w:=by
 go_enter Tryz.func210,Tryz.ntmps210
 go_wp2
 case _=>
  go_ret
  exact⟨ret_bool (inside_all (by assumption) (by assumption)),rfl⟩
 case _=>
  go_ret
  exact⟨ret_bool (inside_yes (by assumption)),rfl⟩
 case _=>
  go_ret
  exact⟨ret_bool (inside_no (by assumption)),rfl⟩
theorem pre_eq (t a:ByteArray) (h:a.size≤t.size):((t.extract 0 a.size).toList==a.toList)=a.toList.isPrefixOf t.toList:=by
 have h1:(t.extract 0 a.size).toList=t.toList.take a.toList.length:=by
  rw[ByteArray.toList_eq,ByteArray.toList_eq,ByteArray.toList_eq,ByteArray.data_extract,Array.toList_extract,List.extract_eq_take_drop]
  show((t.data.toList.drop 0).take (a.size-0))=t.data.toList.take a.data.toList.length
  rw[Nat.sub_zero,List.drop_zero]
  rfl
 rw[h1,Bool.eq_iff_iff,beq_iff_eq,List.isPrefixOf_iff_prefix]
 constructor
 ·intro h2;rw[←h2];exact List.take_prefix _ _
 ·intro h2;exact(List.prefix_iff_eq_take.1 h2).symm
theorem pre_no (t a:ByteArray) (h:¬a.size≤t.size):false=a.toList.isPrefixOf t.toList:=by
 symm
 rw[Bool.eq_false_iff]
 intro h1
 have h2:=(List.isPrefixOf_iff_prefix.1 h1).length_le
 rw[ByteArray.toList_eq,ByteArray.toList_eq] at h2
 exact h h2
theorem hasPrefix0_any (t a:ByteArray) (w:World) (ht:t.size≤maxLen) (ha:a.size≤maxLen):
  Calls Tryz.prog 219 #[.string t,.string a] w fun e w'=>e=.returned (.bool (a.toList.isPrefixOf t.toList))∧w'=w:=by
 unfold maxLen at ht ha
 go_enter Tryz.func219,Tryz.ntmps219
 go_wp2
 all_goals
  go_ret
  refine⟨ret_bool ?_,rfl⟩
  first | exact pre_eq t a (by assumption) | exact pre_no t a (by assumption)
theorem hasPrefix_any (t a:ByteArray) (w:World) (ht:t.size≤maxLen) (ha:a.size≤maxLen):
  Calls Tryz.prog 211 #[.string t,.string a] w fun e w'=>e=.returned (.bool (a.toList.isPrefixOf t.toList))∧w'=w:=by
 go_enter Tryz.func211,Tryz.ntmps211
 go_wp2_with (go_at_call 219;refine(hasPrefix0_any _ _ _ ht ha).mono ?_;rintro e w' ⟨rfl,rfl⟩)
 go_ret
 exact⟨rfl,rfl⟩
theorem mayGrow_any (t a b:ByteArray) (w:World) (ht:t.size≤maxLen) (ha:a.size≤maxLen):
  Calls Tryz.prog 195 #[.string t,.string a,.string b] w fun e w'=>e=.returned (.bool (Pm.may t.toList a.toList b.toList))∧w'=w:=by
 cases hin:Pm.inside t.toList a.toList b.toList
 all_goals
  go_enter Tryz.func195,Tryz.ntmps195
  go_wp2_with (first | (go_at_call 210;refine(isInside_any _ _ _ _).mono ?_;rintro e w' ⟨rfl,rfl⟩) | (go_at_call 211;refine(hasPrefix_any _ _ _ ha ht).mono ?_;rintro e w' ⟨rfl,rfl⟩))
  go_ret
  exact⟨ret_bool (by simp[Pm.may,hin]),rfl⟩
theorem last_ne (s:ByteArray) (h:0<s.size):(s.toList.getLast? !=some 97)=(((s[s.size-1]'(by omega)).toNat:Int) !=97):=by
 have h1:=last_eq s h
 have h2:s.toList.getLast? =some (s.toList.getLast?.getD 0):=by
  cases h3:s.toList.getLast? with
  | none=>
   rw[List.getLast?_eq_none_iff,ByteArray.toList_eq] at h3
   have:s.data.toList.length=s.size:=rfl
   rw[h3] at this;simp at this;omega
  | some x=>rfl
 rw[h2,h1]
 generalize s[s.size-1]'(by omega)=c
 rw[Bool.eq_iff_iff]
 simp only[bne_iff_ne,ne_eq,Option.some.injEq,←UInt8.toNat_inj]
 constructor
 ·intro h5 h6;apply h5;show c.toNat=97;omega
 ·intro h5 h6;apply h5;have:c.toNat=97:=h6;omega
theorem isStem_any (t a b:ByteArray) (w:World) (h0:0<t.size) (ht:t.size≤maxLen) (hb:b.size≤maxLen):
  Calls Tryz.prog 194 #[.string t,.string a,.string b] w fun e w'=>e=.returned (.bool (Pm.stem t.toList a.toList b.toList))∧w'=w:=by
 have hl:=last_ne t h0
 have hm:=ht
 unfold maxLen at hm
 cases hin:Pm.inside t.toList a.toList b.toList
 case false=>
  clear hl
  go_enter Tryz.func194,Tryz.ntmps194
  go_wp2_with (first | (go_at_call 210;refine(isInside_any _ _ _ _).mono ?_;rintro e w' ⟨rfl,rfl⟩) | (go_at_call 211;refine(hasPrefix_any _ _ _ hb ht).mono ?_;rintro e w' ⟨rfl,rfl⟩))
  go_ret
  exact⟨ret_bool (by simp[Pm.stem,hin]),rfl⟩
 case true=>
  cases hq:(((t[t.size-1]'(by omega)).toNat:Int) !=97)
  all_goals
   have H:Hid (Pm.stem t.toList a.toList b.toList=(((t[t.size-1]'(by omega)).toNat:Int) !=97 && !(t.toList.isPrefixOf b.toList))):=by
    unfold Pm.stem Hid;rw[hin,hl];rfl
   have HQ:=z9 hq
   clear hl
   go_enter Tryz.func194,Tryz.ntmps194
   go_wp2_with (first | (go_at_call 210;refine(isInside_any _ _ _ _).mono ?_;rintro e w' ⟨rfl,rfl⟩) | (go_at_call 211;refine(hasPrefix_any _ _ _ hb ht).mono ?_;rintro e w' ⟨rfl,rfl⟩))
   go_ret
   exact⟨ret_bool (by rw[H.out,HQ.out];rfl),rfl⟩
theorem take_snoc (s:ByteArray) (k:Nat) (h:k<s.size):s.toList.take (k+1)=s.toList.take k++[s[k]]:=by
 rw[ByteArray.toList_eq,List.take_succ_eq_append_getElem (by simpa using h)];rfl
theorem isLet_iff (c:UInt8):Pm.isLet c=(!(decide ((c.toNat:Int)<97)||decide (122<(c.toNat:Int)))):=by
 rw[Bool.eq_iff_iff];simp[Pm.isLet];omega
theorem areLetters_any (s:ByteArray) (w:World) (hs:s.size≤maxLen):
  Calls Tryz.prog 173 #[.string s] w fun e w'=>e=.returned (.bool (s.toList.all Pm.isLet))∧w'=w:=by
 unfold maxLen at hs
 go_enter Tryz.func173,Tryz.ntmps173
 go_wp2
 go_loop [6] (fun i=>∃k:Nat,k≤s.size∧i=.int .i64 k∧(s.toList.take k).all Pm.isLet=true) (fun i=>s.size-(intOf i).toNat)
 case atStart=>exact⟨0,Nat.zero_le _,rfl,by simp⟩
 case round=>
  obtain⟨k,hk,rfl,hall⟩:=hrel
  by_cases hlt:k<s.size
  ·have ht:=take_snoc s k hlt
   have hb:s[k].toNat<256:=UInt8.toNat_lt _
   have HB:Hid (∀c,s.toList.all c=((s.toList.take (k+1)).all c&&(s.toList.drop (k+1)).all c)):=by
    intro c;rw[←List.all_append,List.take_append_drop]
   have HA:Hid ((s.toList.take (k+1)).all Pm.isLet=Pm.isLet s[k]):=by
    unfold Hid;rw[ht,List.all_append,hall];simp
   have HL:Hid (Pm.isLet s[k]=(!(decide ((s[k].toNat:Int)<97)||decide (122<(s[k].toNat:Int))))):=isLet_iff _
   clear ht hall
   by_cases h1:(s[k].toNat:Int)<97
   ·go_wp2
    go_ret
    exact⟨ret_bool (by rw[HB.out,HA.out,HL.out,decide_eq_true h1];rfl),rfl⟩
   ·by_cases h2:122<(s[k].toNat:Int)
    ·go_wp2
     go_ret
     exact⟨ret_bool (by rw[HB.out,HA.out,HL.out,decide_eq_true h2,Bool.or_true];rfl),rfl⟩
    ·go_wp2
     go_round
     case rel=>exact⟨k+1,by omega,by go_num,by rw[HA.out,HL.out,decide_eq_false h1,decide_eq_false h2];rfl⟩
     case measure=>simp[intOf];omega
  ·have HA:Hid (s.toList.all Pm.isLet=true):=by
    unfold Hid;rw[List.take_of_length_le (by rw[ByteArray.toList_eq];show s.size≤k;omega)] at hall;exact hall
   clear hall
   go_wp2
   go_ret
   exact⟨ret_bool HA.out.symm,rfl⟩
end Pa
end Go.Proofs.YtlmdchpbpgcfmaaGreatDoor
/- What Check, Who and checkSides of package place answer, at every input. -/
namespace Go.Proofs.YtlmdchpbpgcfmaaGreatDoor
namespace Pb
open Go.ChangeShapes Go.WideShapes Go.ChangeAt Go.RowKit Pa
theorem len_eq (s:ByteArray):s.toList.length=s.size:=by rw[ByteArray.toList_eq];rfl
theorem ret_err {a b:Int} (h:a=b) (hb:b≠0):Ending.returned (.iface 84 (.int .i64 a))=.returned (errV b):=by
 rw[errV,if_neg hb,h]
theorem ret_nil {b:Int} (hb:b=0):Ending.returned .nilIface=.returned (errV b):=by
 rw[errV,if_pos hb]
theorem last2_eq (s:ByteArray) (h:2≤s.size):(s.toList.dropLast.getLast? ==some 97)=(((s[s.size-2]'(by omega)).toNat:Int)==97):=by
 have h1:s.toList.dropLast.getLast? =some (s[s.size-2]'(by omega)):=by
  rw[ByteArray.toList_eq,List.getLast?_eq_getElem?,List.length_dropLast]
  have h3:s.data.toList.length=s.size:=rfl
  rw[List.getElem?_dropLast,if_pos (by rw[h3];omega),List.getElem?_eq_getElem (by rw[h3];omega)]
  have:s.data.toList.length-1-1=s.size-2:=by rw[h3];omega
  simp only[this]
  rfl
 rw[h1]
 generalize s[s.size-2]'(by omega)=c
 rw[Bool.eq_iff_iff]
 simp only[beq_iff_eq,Option.some.injEq,←UInt8.toNat_inj]
 constructor
 ·intro h6;have:c.toNat=97:=h6;omega
 ·intro h6;show c.toNat=97;omega
theorem check_any (s:ByteArray) (w:World) (hs:s.size≤maxLen):
  Calls Tryz.prog 139 #[.string s] w fun e w'=>e=.returned (errV (Pm.chk s.toList))∧w'=w:=by
 have hm:=hs
 unfold maxLen at hm
 have hl:=len_eq s
 by_cases h1:12<s.size
 ·have H:Hid (Pm.chk s.toList=4):=by unfold Hid Pm.chk;rw[hl,if_pos h1]
  clear hl
  go_enter Tryz.func139,Tryz.ntmps139
  go_wp2
  go_ret
  exact⟨ret_err H.out.symm (by rw[H.out];decide),rfl⟩
 by_cases h2:s.size<2
 ·have H:Hid (Pm.chk s.toList=2):=by unfold Hid Pm.chk;rw[hl,if_neg h1,if_pos h2]
  clear hl
  go_enter Tryz.func139,Tryz.ntmps139
  go_wp2
  go_ret
  exact⟨ret_err H.out.symm (by rw[H.out];decide),rfl⟩
 cases h3:s.toList.all Pm.isLet
 ·have H:Hid (Pm.chk s.toList=2):=by unfold Hid Pm.chk;rw[hl,if_neg h1,if_neg h2,h3];rfl
  have H3:=z9 h3
  clear hl
  go_enter Tryz.func139,Tryz.ntmps139
  go_wp2_with (go_at_call 173;refine(areLetters_any _ _ hs).mono ?_;rintro e w' ⟨rfl,rfl⟩;rw[H3.out])
  go_ret
  exact⟨ret_err H.out.symm (by rw[H.out];decide),rfl⟩
 have H3:=z9 h3
 have hc:=last2_eq s (by omega)
 have hq:s.size-2<s.size:=by clear hl hc;omega
 cases h4:(((s[s.size-2]'hq).toNat:Int)==97)
 ·rw[h4] at hc
  cases h5:Pm.isWho (Pm.whoOf s.toList)
  ·have H:Hid (Pm.chk s.toList=2):=by unfold Hid Pm.chk;rw[hl,if_neg h1,if_neg h2,h3,hc,h5];rfl
   have H5:=z9 h5
   clear hl hc h3 h5
   go_enter Tryz.func139,Tryz.ntmps139
   go_wp2_with (first | (go_at_call 173;refine(areLetters_any _ _ hs).mono ?_;rintro e w' ⟨rfl,rfl⟩;rw[H3.out]) | (go_at_call 174;refine(authorOf_any _ _ (by omega) hs).mono ?_;rintro e w' ⟨rfl,rfl⟩) | (go_at_call 136;refine(isAuthor_any _ _).mono ?_;rintro e w' ⟨rfl,rfl⟩;rw[H5.out]))
   go_ret
   exact⟨ret_err H.out.symm (by rw[H.out];decide),rfl⟩
  ·have H:Hid (Pm.chk s.toList=0):=by unfold Hid Pm.chk;rw[hl,if_neg h1,if_neg h2,h3,hc,h5];rfl
   have H5:=z9 h5
   clear hl hc h3 h5
   go_enter Tryz.func139,Tryz.ntmps139
   go_wp2_with (first | (go_at_call 173;refine(areLetters_any _ _ hs).mono ?_;rintro e w' ⟨rfl,rfl⟩;rw[H3.out]) | (go_at_call 174;refine(authorOf_any _ _ (by omega) hs).mono ?_;rintro e w' ⟨rfl,rfl⟩) | (go_at_call 136;refine(isAuthor_any _ _).mono ?_;rintro e w' ⟨rfl,rfl⟩;rw[H5.out]))
   go_ret
   exact⟨ret_nil H.out,rfl⟩
 ·rw[h4] at hc
  have H:Hid (Pm.chk s.toList=2):=by unfold Hid Pm.chk;rw[hl,if_neg h1,if_neg h2,h3,hc];rfl
  clear hl hc h3
  go_enter Tryz.func139,Tryz.ntmps139
  go_wp2_with (first | (go_at_call 173;refine(areLetters_any _ _ hs).mono ?_;rintro e w' ⟨rfl,rfl⟩;rw[H3.out]))
  go_ret
  exact⟨ret_err H.out.symm (by rw[H.out];decide),rfl⟩
theorem check_ok (s:ByteArray) (w:World) (hs:s.size≤maxLen) (h:Pm.chk s.toList=0):
  Calls Tryz.prog 139 #[.string s] w fun e w'=>e=.returned .nilIface∧w'=w:=by
 refine(check_any s w hs).mono ?_
 rintro e w' ⟨rfl,rfl⟩
 exact⟨by rw[errV,if_pos h],rfl⟩
theorem check_bad (s:ByteArray) (w:World) (hs:s.size≤maxLen) (h:Pm.chk s.toList≠0):
  Calls Tryz.prog 139 #[.string s] w fun e w'=>e=.returned (.iface 84 (.int .i64 (Pm.chk s.toList)))∧w'=w:=by
 refine(check_any s w hs).mono ?_
 rintro e w' ⟨rfl,rfl⟩
 exact⟨by rw[errV,if_neg h],rfl⟩
theorem checkSides_any (a b:ByteArray) (w:World) (ha:a.size≤maxLen) (hb:b.size≤maxLen):
  Calls Tryz.prog 171 #[.string a,.string b] w fun e w'=>e=.returned (errV (Pm.sides a.toList b.toList))∧w'=w:=by
 cases ea:a.toList.isEmpty<;>cases eb:b.toList.isEmpty
 all_goals
  have fa:=ea
  have fb:=eb
  simp only[List.isEmpty_iff,List.isEmpty_eq_false_iff] at fa fb
 ·by_cases h1:Pm.chk a.toList=0
  ·by_cases h2:Pm.chk b.toList=0
   ·cases h3:Op.bytesLess a.toList b.toList
    ·have H:Hid (Pm.sides a.toList b.toList=3):=by unfold Hid Pm.sides;simp[fa,fb,h1,h2,h3]
     have Ha:=z9 h1
     have Hb:=z9 h2
     clear h1 h2 fa fb
     go_enter Tryz.func171,Tryz.ntmps171
     go_wp2_with fail
     refine(check_ok a _ ha Ha.out).mono ?_
     rintro e w' ⟨rfl,rfl⟩
     go_wp2_with fail
     refine(check_ok b _ hb Hb.out).mono ?_
     rintro e w' ⟨rfl,rfl⟩
     go_wp2_with fail
     go_ret
     exact⟨ret_err H.out.symm (by rw[H.out];decide),rfl⟩
    ·have H:Hid (Pm.sides a.toList b.toList=0):=by unfold Hid Pm.sides;simp[fa,fb,h1,h2,h3]
     have Ha:=z9 h1
     have Hb:=z9 h2
     clear h1 h2 fa fb
     go_enter Tryz.func171,Tryz.ntmps171
     go_wp2_with fail
     refine(check_ok a _ ha Ha.out).mono ?_
     rintro e w' ⟨rfl,rfl⟩
     go_wp2_with fail
     refine(check_ok b _ hb Hb.out).mono ?_
     rintro e w' ⟨rfl,rfl⟩
     go_wp2_with fail
     go_ret
     exact⟨ret_nil H.out,rfl⟩
   ·have H:Hid (Pm.sides a.toList b.toList=Pm.chk b.toList):=by unfold Hid Pm.sides;simp[fa,fb,h1,h2]
    have Ha:=z9 h1
    have Hb:=z9 h2
    clear h1 h2 fa fb
    go_enter Tryz.func171,Tryz.ntmps171
    go_wp2_with fail
    refine(check_ok a _ ha Ha.out).mono ?_
    rintro e w' ⟨rfl,rfl⟩
    go_wp2_with fail
    refine(check_bad b _ hb Hb.out).mono ?_
    rintro e w' ⟨rfl,rfl⟩
    go_wp2_with fail
    go_ret
    exact⟨ret_err H.out.symm (by rw[H.out];exact Hb.out),rfl⟩
  ·have H:Hid (Pm.sides a.toList b.toList=Pm.chk a.toList):=by unfold Hid Pm.sides;simp[fa,h1]
   have Ha:=z9 h1
   clear h1 fa fb
   go_enter Tryz.func171,Tryz.ntmps171
   go_wp2_with fail
   refine(check_bad a _ ha Ha.out).mono ?_
   rintro e w' ⟨rfl,rfl⟩
   go_wp2_with fail
   go_ret
   exact⟨ret_err H.out.symm (by rw[H.out];exact Ha.out),rfl⟩
 ·by_cases h1:Pm.chk a.toList=0
  ·have H:Hid (Pm.sides a.toList b.toList=0):=by unfold Hid Pm.sides;simp[fa,fb,h1]
   have Ha:=z9 h1
   clear h1 fa fb
   go_enter Tryz.func171,Tryz.ntmps171
   go_wp2_with fail
   refine(check_ok a _ ha Ha.out).mono ?_
   rintro e w' ⟨rfl,rfl⟩
   go_wp2_with fail
   go_ret
   exact⟨ret_nil H.out,rfl⟩
  ·have H:Hid (Pm.sides a.toList b.toList=Pm.chk a.toList):=by unfold Hid Pm.sides;simp[fa,h1]
   have Ha:=z9 h1
   clear h1 fa fb
   go_enter Tryz.func171,Tryz.ntmps171
   go_wp2_with fail
   refine(check_bad a _ ha Ha.out).mono ?_
   rintro e w' ⟨rfl,rfl⟩
   go_wp2_with fail
   go_ret
   exact⟨ret_err H.out.symm (by rw[H.out];exact Ha.out),rfl⟩
 ·by_cases h2:Pm.chk b.toList=0
  ·have H:Hid (Pm.sides a.toList b.toList=0):=by unfold Hid Pm.sides;simp[fa,fb,h2]
   have Hb:=z9 h2
   clear h2 fa fb
   go_enter Tryz.func171,Tryz.ntmps171
   go_wp2_with fail
   refine(check_ok b _ hb Hb.out).mono ?_
   rintro e w' ⟨rfl,rfl⟩
   go_wp2_with fail
   go_ret
   exact⟨ret_nil H.out,rfl⟩
  ·have H:Hid (Pm.sides a.toList b.toList=Pm.chk b.toList):=by unfold Hid Pm.sides;simp[fa,fb,h2]
   have Hb:=z9 h2
   clear h2 fa fb
   go_enter Tryz.func171,Tryz.ntmps171
   go_wp2_with fail
   refine(check_bad b _ hb Hb.out).mono ?_
   rintro e w' ⟨rfl,rfl⟩
   go_wp2_with fail
   go_ret
   exact⟨ret_err H.out.symm (by rw[H.out];exact Hb.out),rfl⟩
 ·have H:Hid (Pm.sides a.toList b.toList=0):=by unfold Hid Pm.sides;simp[fa,fb]
  clear fa fb
  go_enter Tryz.func171,Tryz.ntmps171
  go_wp2_with fail
  go_ret
  exact⟨ret_nil H.out,rfl⟩
end Pb
end Go.Proofs.YtlmdchpbpgcfmaaGreatDoor
/- What grow of package place answers: of all texts with one letter more those that are stems, and those that may grow, in order, in new memory. -/
namespace Go.Proofs.YtlmdchpbpgcfmaaGreatDoor
namespace Pc
open Go.ChangeShapes Go.WideShapes Go.ChangeAt Go.RowKit Pa Pb
/- a text as a value -/
def S (l:List UInt8):Value:=.string ⟨l.toArray⟩
theorem info9:(Tryz.prog.info? 9).map (fun i=>(i.zero,i.size,i.bytes))=some (some (.string ByteArray.empty),1,16):=by kernel_rfl
/- two rows of texts of the call's own, apart from each other -/
def R (B:Nat) (w:World) (xs ys:List (List UInt8)) (v1 v2:Value) (wr:World):Prop:=
 wr.ownsRow B 9 1 v1 xs.length (xs.map S)∧wr.ownsRow B 9 1 v2 ys.length (ys.map S)∧(v1.ownBlock=none∨v1.ownBlock≠v2.ownBlock)∧Below B w wr∧B≤wr.heap.size
theorem R.start (w:World):R w.heap.size w [] [] (.slice none 0 0) (.slice none 0 0) w:=
 ⟨World.ownsRow_nil _ _ _ _,World.ownsRow_nil _ _ _ _,Or.inl rfl,Below.refl _ _,Nat.le_refl _⟩
theorem apart_symm {v1 v2:Value} (h:v1.ownBlock=none∨v1.ownBlock≠v2.ownBlock):v2.ownBlock=none∨v2.ownBlock≠v1.ownBlock:=by
 rcases h with h | h
 ·cases h2:v2.ownBlock with
  | none=>exact Or.inl rfl
  | some x=>exact Or.inr (by rw[h];simp)
 ·exact Or.inr (Ne.symm h)
theorem R.one {B:Nat} {w wr w1:World} {xs ys:List (List UInt8)} {v1 v2 v':Value} {o:Obj} {t:List UInt8} (h:R B w xs ys v1 v2 wr)
  (hown:w1.ownsRow B 9 1 v' (xs.length+1) (xs.map S++[S t])) (hg:(wr.alloc o).grownBy w1 v1.ownBlock)
  (hat:v'.ownBlock=v1.ownBlock∨v'.ownBlock=some (wr.alloc o).heap.size):R B w (xs++[t]) ys v' v2 w1:=by
 obtain⟨h1,h2,h3,h4,h5⟩:=h
 have hs:wr.heap.size+1≤w1.heap.size:=by have:=hg.size;simpa using this
 have hsz:(wr.alloc o).heap.size=wr.heap.size+1:=by simp
 rw[hsz] at hat
 refine⟨by simpa using hown,(h2.alloc o).kept hg (apart_symm h3), ?_,(h4.alloc h5 o).grown hg (by simp;omega) (fun j hj=>(h1.lt j hj).1),by omega⟩
 rcases hat with hat | hat
 ·rw[hat];exact h3
 ·right;rw[hat];intro e
  have:=(h2.lt _ e.symm).2
  omega
theorem R.two {B:Nat} {w wr w1:World} {xs ys:List (List UInt8)} {v1 v2 v':Value} {o:Obj} {t:List UInt8} (h:R B w xs ys v1 v2 wr)
  (hown:w1.ownsRow B 9 1 v' (ys.length+1) (ys.map S++[S t])) (hg:(wr.alloc o).grownBy w1 v2.ownBlock)
  (hat:v'.ownBlock=v2.ownBlock∨v'.ownBlock=some (wr.alloc o).heap.size):R B w xs (ys++[t]) v1 v' w1:=by
 obtain⟨h1,h2,h3,h4,h5⟩:=h
 have hs:wr.heap.size+1≤w1.heap.size:=by have:=hg.size;simpa using this
 have hsz:(wr.alloc o).heap.size=wr.heap.size+1:=by simp
 rw[hsz] at hat
 refine⟨(h1.alloc o).kept hg h3,by simpa using hown, ?_,(h4.alloc h5 o).grown hg (by simp;omega) (fun j hj=>(h2.lt j hj).1),by omega⟩
 rcases hat with hat | hat
 ·rw[hat];exact h3
 ·cases hv:v1.ownBlock with
  | none=>exact Or.inl rfl
  | some x=>
   right;rw[hat];intro e
   have:=(h1.lt x hv).2
   simp at e;omega
theorem enc_letter (c:Int) (j:Nat) (h:c=97+j) (hj:j<26):Utf8.encode c=⟨#[UInt8.ofNat (97+j)]⟩:=by
 subst h
 have hv:Utf8.valid (97+(j:Int))=true:=by unfold Utf8.valid;simp;omega
 unfold Utf8.encode
 simp only[hv,if_true]
 have:(97+(j:Int)).toNat=97+j:=by omega
 rw[this,if_pos (by omega)]
theorem add_letter (h:List UInt8) (x:UInt8):(⟨h.toArray⟩:ByteArray)++⟨#[x]⟩=⟨(h++[x]).toArray⟩:=by
 have:=ByteArray.mk_append_mk h [x]
 simpa using this
theorem filter_yes {p:List UInt8→Bool} {l:List (List UInt8)} {t:List UInt8} (h:p t=true):(l++[t]).filter p=l.filter p++[t]:=by simp[h]
theorem filter_no {p:List UInt8→Bool} {l:List (List UInt8)} {t:List UInt8} (h:p t=false):(l++[t]).filter p=l.filter p:=by simp[h]
theorem grow_some (ob cap:Nat) (os:List (List UInt8)) (a b:ByteArray) (w:World) (ha:a.size≤maxLen) (hb:b.size≤maxLen)
  (hl:os.length≤1000000) (hz:∀k,k<os.length→(os.getD k []).length≤100)
  (hc:∀k,k<os.length→w.cell? ⟨ob,k,none⟩=some (S (os.getD k []))) (hob:ob<w.heap.size):
  Calls Tryz.prog 172 #[.slice (some ⟨ob,0,none⟩) os.length cap,.string a,.string b] w fun e w'=>
   ∃v1 v2,e=.returned (.tuple #[v1,v2])∧R w.heap.size w (Pm.stems os a.toList b.toList) (Pm.longer os a.toList b.toList) v1 v2 w':=by
 obtain⟨i0,hi,hz0,hz1,hz2⟩:=info_parts info9
 go_enter Tryz.func172,Tryz.ntmps172
 go_wp2
 go_loopw [6,7,14] (fun v1 v2 i wr=>∃k:Nat,k≤os.length∧i=.int .i64 k∧R w.heap.size w ((Pm.cand os k 0).filter fun t=>Pm.stem t a.toList b.toList) ((Pm.cand os k 0).filter fun t=>Pm.may t a.toList b.toList) v1 v2 wr) (fun _ _ i _=>os.length-(intOf i).toNat)
 case atStart=>exact⟨0,Nat.zero_le _,rfl,by rw[Pm.cand_start];exact R.start w⟩
 case round=>
  obtain⟨k,hk,rfl,hR⟩:=hrel
  by_cases hlt:k<os.length
  ·have hcx:wr.cell? ⟨ob,k,none⟩=some (S (os.getD k [])):=(hR.2.2.2.1.cell hob).trans (hc k hlt)
   have hzk:=hz k hlt
   obtain⟨hd,hh0⟩:∃hd,hd=os.getD k []:=⟨_,rfl⟩
   have HH0:=z9 hh0
   rw[←hh0] at hcx hzk
   clear hh0 hc hz
   unfold S at hcx
   obtain⟨hh,hhs⟩:∃hh:ByteArray,hh=⟨hd.toArray⟩:=⟨_,rfl⟩
   have hhl:hh.size≤100:=by rw[hhs];exact hzk
   rw[←hhs] at hcx
   have HH:=z9 hhs
   clear hhs
   go_wp2
   go_loopw [6,7,10] (fun v1 v2 i ws=>∃c:Int,∃j:Nat,Hid (c=97+j)∧97≤c∧c≤123∧i=.int .i32 c∧R w.heap.size w ((Pm.cand os k j).filter fun t=>Pm.stem t a.toList b.toList) ((Pm.cand os k j).filter fun t=>Pm.may t a.toList b.toList) v1 v2 ws) (fun _ _ i _=>123-(intOf i).toNat)
   case atStart=>exact⟨97,0,rfl,by omega,by omega,rfl,hR⟩
   case round=>
    obtain⟨c,j,Hc,hj0,hj,rfl,hRj⟩:=hrel
    by_cases hjt:c≤122
    ·have hj26:j<26:=by have:=Hc.out;omega
     have HX0:=z9 (enc_letter c j Hc.out hj26)
     obtain⟨X,hX⟩:∃X:ByteArray,Utf8.encode c=X:=⟨_,rfl⟩
     have HX:Hid (X=⟨#[UInt8.ofNat (97+j)]⟩):=by unfold Hid;rw[←hX];exact HX0.out
     have hXs:X.size=1:=by rw[HX.out];rfl
     have HT:Hid (hh++X=⟨(hd++[UInt8.ofNat (97+j)]).toArray⟩):=by unfold Hid;rw[HX.out,HH.out,add_letter]
     have hTs:(hh++X).size=hh.size+1:=by rw[ByteArray.size_append,hXs]
     have HTl:Hid ((hh++X).toList=hd++[UInt8.ofNat (97+j)]):=by unfold Hid;rw[HT.out,ByteArray.toList_mk]
     have HS:Hid (Value.string (hh++X)=S (hd++[UInt8.ofNat (97+j)])):=by unfold Hid S;rw[HT.out]
     have hcl:=Pm.cand_le os k j
     have hsl:((Pm.cand os k j).filter fun t=>Pm.stem t a.toList b.toList).length≤26*k+j:=Nat.le_trans (List.length_filter_le _ _) hcl
     have hml:((Pm.cand os k j).filter fun t=>Pm.may t a.toList b.toList).length≤26*k+j:=Nat.le_trans (List.length_filter_le _ _) hcl
     have hm1:(hh++X).size≤maxLen:=by rw[hTs];unfold maxLen;omega
     have hm0:0<(hh++X).size:=by rw[hTs];omega
     have HCS:Hid (Pm.cand os k (j+1)=Pm.cand os k j++[hd++[UInt8.ofNat (97+j)]]):=by
      unfold Hid;rw[Pm.cand_step os k j hj26,HH0.out]
     cases h1:Pm.stem (hh++X).toList a.toList b.toList<;>cases h2:Pm.may (hh++X).toList a.toList b.toList
     case false.false=>
      have H1:=z9 h1
      have H2:=z9 h2
      have HF1:Hid (Pm.stem (hd++[UInt8.ofNat (97+j)]) a.toList b.toList=false):=by unfold Hid;rw[←HTl.out];exact h1
      have HF2:Hid (Pm.may (hd++[UInt8.ofNat (97+j)]) a.toList b.toList=false):=by unfold Hid;rw[←HTl.out];exact h2
      clear h1 h2
      go_wp2_with (first | (go_at_call 194;refine(isStem_any _ _ _ _ hm0 hm1 hb).mono ?_;rintro e w' ⟨rfl,hw⟩;have hw2:=hw.symm;subst hw2;clear hw;rw[H1.out]) | (go_at_call 195;refine(mayGrow_any _ _ _ _ hm1 ha).mono ?_;rintro e w' ⟨rfl,hw⟩;have hw2:=hw.symm;subst hw2;clear hw;rw[H2.out]))
      go_roundw
      case rel=>exact⟨c+1,j+1,by have:=Hc.out;unfold Hid;omega,by omega,by omega,rfl,by rw[HCS.out,filter_no (p:=fun t=>Pm.stem t a.toList b.toList) HF1.out,filter_no (p:=fun t=>Pm.may t a.toList b.toList) HF2.out];exact hRj⟩
      case measure=>simp[intOf];omega
     case false.true=>
      have H1:=z9 h1
      have H2:=z9 h2
      have HF1:Hid (Pm.stem (hd++[UInt8.ofNat (97+j)]) a.toList b.toList=false):=by unfold Hid;rw[←HTl.out];exact h1
      have HF2:Hid (Pm.may (hd++[UInt8.ofNat (97+j)]) a.toList b.toList=true):=by unfold Hid;rw[←HTl.out];exact h2
      clear h1 h2
      go_wp2_with (first | (go_at_call 194;refine(isStem_any _ _ _ _ hm0 hm1 hb).mono ?_;rintro e w' ⟨rfl,hw⟩;have hw2:=hw.symm;subst hw2;clear hw;rw[H1.out]) | (go_at_call 195;refine(mayGrow_any _ _ _ _ hm1 ha).mono ?_;rintro e w' ⟨rfl,hw⟩;have hw2:=hw.symm;subst hw2;clear hw;rw[H2.out]) | (at_builtin;refine wpList_append_own_at _ rfl (.tmp 38) (.tmp 40) 35 rfl w.heap.size 9 i0 (.string ByteArray.empty) 1 16 Tryz.underlying35 hi hz0 hz1 hz2 rfl (by decide) u7 _ _ rfl (hRj.2.1.alloc _) ⟨wr.heap.size,0,none⟩ 1 1 [.string (hh++X)] rfl rfl (cell_one_new _ _ _) (by intro u hu;simp at hu;subst hu;rfl) (by unfold maxLen;omega) (by omega) (by have:=hRj.2.2.2.2;simp;omega) ?_;intro v' w1 hown' hgrow _ hat;have R2:=hRj.two (t:=hd++[UInt8.ofNat (97+j)]) (by rw[←HS.out];exact hown') hgrow hat;clear hown' hgrow hat))
      go_roundw
      case rel=>exact⟨c+1,j+1,by have:=Hc.out;unfold Hid;omega,by omega,by omega,rfl,by rw[HCS.out,filter_no (p:=fun t=>Pm.stem t a.toList b.toList) HF1.out,filter_yes (p:=fun t=>Pm.may t a.toList b.toList) HF2.out];exact R2⟩
      case measure=>simp[intOf];omega
     case true.false=>
      exact absurd h2 (by have:=Pm.stem_may h1;rw[this];decide)
     case true.true=>
      have H1:=z9 h1
      have H2:=z9 h2
      have HF1:Hid (Pm.stem (hd++[UInt8.ofNat (97+j)]) a.toList b.toList=true):=by unfold Hid;rw[←HTl.out];exact h1
      have HF2:Hid (Pm.may (hd++[UInt8.ofNat (97+j)]) a.toList b.toList=true):=by unfold Hid;rw[←HTl.out];exact h2
      clear h1 h2
      go_wp2_with (first | (go_at_call 194;refine(isStem_any _ _ _ _ hm0 hm1 hb).mono ?_;rintro e w' ⟨rfl,hw⟩;have hw2:=hw.symm;subst hw2;clear hw;rw[H1.out]) | (go_at_call 195;refine(mayGrow_any _ _ _ _ hm1 ha).mono ?_;rintro e w' ⟨rfl,hw⟩;have hw2:=hw.symm;subst hw2;clear hw;rw[H2.out]) | (at_builtin;refine wpList_append_own_at _ rfl (.tmp 30) (.tmp 32) 35 rfl w.heap.size 9 i0 (.string ByteArray.empty) 1 16 Tryz.underlying35 hi hz0 hz1 hz2 rfl (by decide) u6 _ _ rfl (hRj.1.alloc _) ⟨wr.heap.size,0,none⟩ 1 1 [.string (hh++X)] rfl rfl (cell_one_new _ _ _) (by intro u hu;simp at hu;subst hu;rfl) (by unfold maxLen;omega) (by omega) (by have:=hRj.2.2.2.2;simp;omega) ?_;intro v' w1 hown' hgrow _ hat;have R1:=hRj.one (t:=hd++[UInt8.ofNat (97+j)]) (by rw[←HS.out];exact hown') hgrow hat;clear hown' hgrow hat) | (at_builtin;refine wpList_append_own_at _ rfl (.tmp 38) (.tmp 40) 35 rfl w.heap.size 9 i0 (.string ByteArray.empty) 1 16 Tryz.underlying35 hi hz0 hz1 hz2 rfl (by decide) u7 _ _ rfl (R1.2.1.alloc _) ⟨w1.heap.size,0,none⟩ 1 1 [.string (hh++X)] rfl rfl (cell_one_new _ _ _) (by intro u hu;simp at hu;subst hu;rfl) (by unfold maxLen;omega) (by omega) (by have:=R1.2.2.2.2;simp;omega) ?_;intro v'' w2 hown' hgrow _ hat;have R2:=R1.two (t:=hd++[UInt8.ofNat (97+j)]) (by rw[←HS.out];exact hown') hgrow hat;clear hown' hgrow hat))
      go_roundw
      case rel=>exact⟨c+1,j+1,by have:=Hc.out;unfold Hid;omega,by omega,by omega,rfl,by rw[HCS.out,filter_yes (p:=fun t=>Pm.stem t a.toList b.toList) HF1.out,filter_yes (p:=fun t=>Pm.may t a.toList b.toList) HF2.out];exact R2⟩
      case measure=>simp[intOf];omega
    ·have hj26:j=26:=by have:=Hc.out;omega
     subst hj26
     have HCR:=z9 (Pm.cand_row os k hlt)
     go_wp2
     go_roundw
     case rel=>exact⟨k+1,by omega,by go_num,by rw[←HCR.out];exact hRj⟩
     case measure=>simp[intOf];omega
  ·have hkn:k=os.length:=by omega
   have HE:Hid (Pm.cand os k 0=Pm.exts os):=by unfold Hid;rw[hkn];exact Pm.cand_end os
   clear hkn
   go_wp2
   go_ret2
   refine⟨_,_,rfl, ?_⟩
   rw[HE.out] at hR
   exact hR
end Pc
end Go.Proofs.YtlmdchpbpgcfmaaGreatDoor
/- What shortestStems of package place answers: the stems that the search finds, in new memory; or ErrDeep. -/
namespace Go.Proofs.YtlmdchpbpgcfmaaGreatDoor
namespace Pd
open Go.ChangeShapes Go.WideShapes Go.ChangeAt Go.RowKit Pa Pb Pc
theorem own_mono {w:World} {B B':Nat} {v:Value} {n:Nat} {xs:List Value} (h:w.ownsRow B 9 1 v n xs) (hB:B'≤B):w.ownsRow B' 9 1 v n xs:=by
 refine⟨h.1, ?_⟩
 rcases h.2 with h2 | ⟨g,cap,cur,h2,h3,h4⟩
 ·exact .inl h2
 ·exact .inr ⟨g,cap,cur,h2,by omega,h4⟩
theorem grow_nil (a b:ByteArray) (w:World):
  Calls Tryz.prog 172 #[.slice none 0 0,.string a,.string b] w fun e w'=>
   ∃v1 v2,e=.returned (.tuple #[v1,v2])∧R w.heap.size w [] [] v1 v2 w':=by
 go_enter Tryz.func172,Tryz.ntmps172
 go_wp2
 refine wp_loop_rounds 1 ?_
 rw[rounds_succ]
 go_wp2
 go_ret2
 exact⟨_,_,rfl,R.start w⟩
theorem grow_any (B:Nat) (v:Value) (os:List (List UInt8)) (a b:ByteArray) (w:World) (ha:a.size≤maxLen) (hb:b.size≤maxLen)
  (hl:os.length≤1000000) (hz:∀t ∈ os,t.length≤100) (hown:w.ownsRow B 9 1 v os.length (os.map S)):
  Calls Tryz.prog 172 #[v,.string a,.string b] w fun e w'=>
   ∃v1 v2,e=.returned (.tuple #[v1,v2])∧R w.heap.size w (Pm.stems os a.toList b.toList) (Pm.longer os a.toList b.toList) v1 v2 w':=by
 rcases hown.2 with⟨rfl,h0⟩ | ⟨g,cap,cur,rfl,_,hg,_⟩
 ·have:os=[]:=List.eq_nil_of_length_eq_zero h0
  subst this
  exact grow_nil a b w
 ·refine grow_some g cap os a b w ha hb hl ?_ ?_ ?_
  ·intro k hk
   have e:os.getD k []=os[k]:=by rw[List.getD_eq_getElem?_getD,List.getElem?_eq_getElem hk];rfl
   rw[e]
   exact hz _ (List.getElem_mem hk)
  ·intro k hk
   have e:os.getD k []=os[k]:=by rw[List.getD_eq_getElem?_getD,List.getElem?_eq_getElem hk];rfl
   rw[e]
   have:=hown.cells (g:=g) rfl k (S os[k]) (by rw[List.getElem?_map,List.getElem?_eq_getElem hk];rfl)
   have e2:(⟨g,0,none⟩:Addr).add k=⟨g,k,none⟩:=by
    unfold Addr.add
    by_cases h:k=0<;>simp[h]
   rw[e2] at this
   exact this
  ·rcases Nat.lt_or_ge g w.heap.size with h | h
   ·exact h
   ·rw[Array.getElem?_eq_none h] at hg;cases hg
theorem checkSides_ok (a b:ByteArray) (w:World) (ha:a.size≤maxLen) (hb:b.size≤maxLen) (h:Pm.sides a.toList b.toList=0):
  Calls Tryz.prog 171 #[.string a,.string b] w fun e w'=>e=.returned .nilIface∧w'=w:=by
 refine(checkSides_any a b w ha hb).mono ?_
 rintro e w' ⟨rfl,rfl⟩
 exact⟨by rw[errV,if_pos h],rfl⟩
theorem checkSides_bad (a b:ByteArray) (w:World) (ha:a.size≤maxLen) (hb:b.size≤maxLen) (h:Pm.sides a.toList b.toList≠0):
  Calls Tryz.prog 171 #[.string a,.string b] w fun e w'=>e=.returned (.iface 84 (.int .i64 (Pm.sides a.toList b.toList)))∧w'=w:=by
 refine(checkSides_any a b w ha hb).mono ?_
 rintro e w' ⟨rfl,rfl⟩
 exact⟨by rw[errV,if_neg h],rfl⟩
theorem stems_bad (a b:ByteArray) (w:World) (ha:a.size≤maxLen) (hb:b.size≤maxLen) (h:Pm.sides a.toList b.toList≠0):
  Calls Tryz.prog 137 #[.string a,.string b] w fun e w'=>e=.returned (.tuple #[.slice none 0 0,.iface 84 (.int .i64 (Pm.sides a.toList b.toList))])∧w'=w:=by
 have H:=z9 h
 clear h
 go_enter Tryz.func137,Tryz.ntmps137
 go_wp2_with (go_at_call 171;refine(checkSides_bad _ _ _ ha hb H.out).mono ?_;rintro e w' ⟨rfl,rfl⟩)
 go_ret2
 exact⟨rfl,rfl⟩
def Found (a b:List UInt8) (w:World) (e:Ending) (w':World):Prop:=
  Below w.heap.size w w'∧
  ((∃st v,Pm.search a b 11 [[]]=some st∧e=.returned (.tuple #[v,.nilIface])∧w'.ownsRow w.heap.size 9 1 v st.length (st.map S))∨
   (Pm.search a b 11 [[]]=none∧e=.returned (.tuple #[.slice none 0 0,.iface 84 (.int .i64 8)])))
theorem pow_le (k:Nat) (h:k≤11):3^k≤177147:=by
 have:3^k≤3^11:=Nat.pow_le_pow_right (by omega) h
 simpa using this
theorem stems_ok (a b:ByteArray) (w:World) (ha:a.size≤maxLen) (hb:b.size≤maxLen) (h:Pm.sides a.toList b.toList=0):
  Calls Tryz.prog 137 #[.string a,.string b] w (Found a.toList b.toList w):=by
 have H:=z9 h
 clear h
 go_enter Tryz.func137,Tryz.ntmps137
 go_wp2_with (go_at_call 171;refine(checkSides_ok _ _ _ ha hb H.out).mono ?_;rintro e w' ⟨rfl,hw⟩;have hw2:=hw.symm;subst hw2;clear hw)
 go_loopw [7,8,16] (fun vo vs i wr=>∃k:Nat,∃os,k≤11∧i=.int .i64 k∧os.length≤3^k∧Pm.Flat k os∧wr.ownsRow w.heap.size 9 1 vo os.length (os.map S)∧Below w.heap.size w wr∧w.heap.size≤wr.heap.size∧Hid (Pm.search a.toList b.toList 11 [[]]=Pm.search a.toList b.toList (11-k) os)) (fun _ _ i _=>11-(intOf i).toNat)
 case atStart=>
  refine⟨0,[[]],by omega,rfl,by simp,Pm.Flat.start, ?_,(Below.refl _ _).alloc (Nat.le_refl _) _,by simp,rfl⟩
  exact⟨by simp,.inr ⟨w.heap.size,1,_,rfl,Nat.le_refl _,heap_alloc_new w _,Nat.le_refl _,by unfold maxLen;omega,rfl,rfl⟩⟩
 case round=>
  obtain⟨k,os,hk,rfl,hlen,hflat,hown,hbel,hsz,HS⟩:=hrel
  by_cases hlt:k<11
  ·have hp:=pow_le k hk
   have hz:∀t ∈ os,t.length≤100:=fun t ht=>by have:=(hflat t ht).1;omega
   have HK:Hid (11-k=(10-k)+1):=by unfold Hid;omega
   go_wp2_with fail
   refine(grow_any w.heap.size _ os a b _ ha hb (by omega) hz hown).mono ?_
   rintro e w1 ⟨v1,v2,rfl,hR⟩
   obtain⟨hR1,hR2,_,hR4,hR5⟩:=hR
   have hb1:Below w.heap.size w w1:=hbel.trans (hR4.mono hsz)
   have hs1:w.heap.size≤w1.heap.size:=Nat.le_trans hsz hR5
   have hR1':=own_mono hR1 hsz
   have hR2':=own_mono hR2 hsz
   have HM:Hid (Pm.stems os a.toList b.toList=[]→Pm.search a.toList b.toList 11 [[]]=Pm.search a.toList b.toList (11-(k+1)) (Pm.longer os a.toList b.toList)):=by
    intro h;rw[HS.out,HK.out,Pm.search_miss h,show 11-(k+1)=10-k from by omega]
   have HHit:Hid (Pm.stems os a.toList b.toList≠[]→Pm.search a.toList b.toList 11 [[]]=some (Pm.stems os a.toList b.toList)):=by
    intro h;rw[HS.out,HK.out,Pm.search_hit h]
   have HL:Hid (Pm.stems os a.toList b.toList=[]→(Pm.longer os a.toList b.toList).length≤3^(k+1)):=by
    intro h;have:=Pm.longer_le os a.toList b.toList h;rw[Nat.pow_succ];omega
   have hfl:Pm.Flat (k+1) (Pm.longer os a.toList b.toList):=hflat.longer
   obtain⟨st,hst⟩:∃st,st=Pm.stems os a.toList b.toList:=⟨_,rfl⟩
   obtain⟨lo,hlo⟩:∃lo,lo=Pm.longer os a.toList b.toList:=⟨_,rfl⟩
   rw[←hst,←hlo] at HM
   rw[←hst] at HHit
   rw[←hst,←hlo] at HL
   rw[←hst] at hR1'
   rw[←hlo] at hR2' hfl
   clear hR1 hR2 hst hlo hR4 hR5 hown hflat hlen hz hbel HS HK
   rcases Nat.eq_zero_or_pos st.length with h0 | h0
   ·have he:st=[]:=List.eq_nil_of_length_eq_zero h0
    have hm:=HM.out he
    have HM':=z9 hm
    have hl:=HL.out he
    clear HM hm HHit HL
    rcases hR1'.2 with⟨rfl,_⟩ | ⟨g,cap,cur,rfl,_⟩
    ·clear hR1' h0 he
     go_wp2_with fail
     go_roundw
     case rel=>exact⟨k+1,lo,by omega,by go_num,hl,hfl,hR2',hb1,hs1,HM'⟩
     case measure=>simp[intOf];omega
    ·rw[h0]
     clear hR1' h0 he
     go_wp2_with fail
     go_roundw
     case rel=>exact⟨k+1,lo,by omega,by go_num,hl,hfl,hR2',hb1,hs1,HM'⟩
     case measure=>simp[intOf];omega
   ·have hne:st≠[]:=by intro h;rw[h] at h0;simp at h0
    have hh:=HHit.out hne
    have HH:=z9 hh
    clear HM hh HHit HL hne
    rcases hR1'.2 with⟨rfl,h1⟩ | ⟨g,cap,cur,rfl,_⟩
    ·omega
    ·go_wp2_with fail
     go_ret2
     exact⟨hb1,Or.inl ⟨st,_,HH.out,rfl,hR1'⟩⟩
  ·have hk11:k=11:=by omega
   have HN:Hid (Pm.search a.toList b.toList 11 [[]]=none):=by
    unfold Hid;rw[HS.out,hk11];rfl
   clear HS hk11
   go_wp2
   go_ret2
   exact⟨hbel,Or.inr ⟨HN.out,rfl⟩⟩
end Pd
end Go.Proofs.YtlmdchpbpgcfmaaGreatDoor
/- What Room and Between of package place answer, at every input. -/
namespace Go.Proofs.YtlmdchpbpgcfmaaGreatDoor
namespace Pe
open Go.ChangeShapes Go.WideShapes Go.ChangeAt Go.RowKit Pa Pb Pc Pd
/- a row of texts of the call's own, as cells -/
theorem row_cells {w:World} {B:Nat} {v:Value} {st:List (List UInt8)} (h:w.ownsRow B 9 1 v st.length (st.map S)) (hn:0<st.length):
  ∃g cap,v=.slice (some ⟨g,0,none⟩) st.length cap∧st.length≤9223372036854775807∧∀k,k<st.length→w.cell? ⟨g,k,none⟩=some (S (st.getD k [])):=by
 rcases h.2 with⟨_,h0⟩ | ⟨g,cap,cur,hv,_,hg,h1,h2,_⟩
 ·omega
 ·refine⟨g,cap,hv,by unfold maxLen at h2;omega, ?_⟩
  intro k hk
  have e:st.getD k []=st[k]:=by rw[List.getD_eq_getElem?_getD,List.getElem?_eq_getElem hk];rfl
  rw[e]
  subst hv
  have:=h.cells (g:=g) rfl k (S st[k]) (by rw[List.getElem?_map,List.getElem?_eq_getElem hk];rfl)
  have e2:(⟨g,0,none⟩:Addr).add k=⟨g,k,none⟩:=by
   unfold Addr.add
   by_cases h:k=0<;>simp[h]
  rw[e2] at this
  exact this
theorem between_any (a b:ByteArray) (n:Int) (w:World) (ha:a.size≤maxLen) (hb:b.size≤maxLen):
  Calls Tryz.prog 91 #[.string a,.string b,.int .i64 n] w fun e w'=>e=.returned (.tuple #[S (Pm.betText a.toList b.toList n),errV (Pm.betErr a.toList b.toList n)])∧Below w.heap.size w w':=by
 cases hw:Pm.isWho n with
 | false=>
  have H1:Hid (Pm.betText a.toList b.toList n=[]):=by unfold Hid Pm.betText;simp[hw]
  have H2:Hid (Pm.betErr a.toList b.toList n=1):=by unfold Hid Pm.betErr;simp[hw]
  have HW:=z9 hw
  clear hw
  go_enter Tryz.func91,Tryz.ntmps91
  go_wp2_with (go_at_call 136;refine(isAuthor_any _ _).mono ?_;rintro e w' ⟨rfl,hw⟩;have hw2:=hw.symm;subst hw2;clear hw;rw[HW.out])
  go_ret2
  exact⟨by rw[H1.out,H2.out];rfl,Below.refl _ _⟩
 | true=>
  have hwho:1≤n∧n≤8:=by simpa[Pm.isWho] using hw
  obtain⟨hw1,hw8⟩:=hwho
  have HW:=z9 hw
  by_cases h:Pm.sides a.toList b.toList=0
  ·cases hs:Pm.search a.toList b.toList 11 [[]] with
   | none=>
    have H1:Hid (Pm.betText a.toList b.toList n=[]):=by unfold Hid Pm.betText;simp[hw,h,hs]
    have H2:Hid (Pm.betErr a.toList b.toList n=8):=by unfold Hid Pm.betErr Pm.roomErr;simp[hw,h,hs]
    have HS:=z9 hs
    have H:=z9 h
    clear h hs hw
    go_enter Tryz.func91,Tryz.ntmps91
    go_wp2_with (go_at_call 136;refine(isAuthor_any _ _).mono ?_;rintro e w' ⟨rfl,hw⟩;have hw2:=hw.symm;subst hw2;clear hw;rw[HW.out])
    refine(stems_ok _ _ _ ha hb H.out).mono ?_
    rintro e w1 ⟨hbel,⟨st,v,h1,_⟩ | ⟨_,rfl⟩⟩
    ·rw[HS.out] at h1;cases h1
    ·go_wp2_with fail
     go_ret2
     exact⟨by rw[H1.out,H2.out];rfl,hbel⟩
   | some st=>
    obtain⟨hne,m,hm1,hm2,hfl,_⟩:=Pm.search_found 11 0 [[]] st Pm.Flat.start hs
    have h0:0<st.length:=by cases st with
     | nil=>exact absurd rfl hne
     | cons _ _=>simp
    have hq:(st.length-1)/4<st.length:=by omega
    have hl:(Pm.pick st).length≤11:=by
     have e:Pm.pick st=st[(st.length-1)/4]:=by unfold Pm.pick;rw[List.getD_eq_getElem?_getD,List.getElem?_eq_getElem hq];rfl
     rw[e]
     have:=(hfl _ (List.getElem_mem hq)).1
     omega
    have H1:Hid (Pm.betText a.toList b.toList n=Pm.pick st++[UInt8.ofNat (97+n.toNat)]):=by unfold Hid Pm.betText;simp[hw,h,hs]
    have H2:Hid (Pm.betErr a.toList b.toList n=0):=by unfold Hid Pm.betErr Pm.roomErr;simp[hw,h,hs]
    have HS:=z9 hs
    have H:=z9 h
    clear h hs hfl hw
    go_enter Tryz.func91,Tryz.ntmps91
    go_wp2_with (go_at_call 136;refine(isAuthor_any _ _).mono ?_;rintro e w' ⟨rfl,hw⟩;have hw2:=hw.symm;subst hw2;clear hw;rw[HW.out])
    refine(stems_ok _ _ _ ha hb H.out).mono ?_
    rintro e w1 ⟨hbel,⟨st',v,h1,rfl,hown⟩ | ⟨h1,_⟩⟩
    ·rw[HS.out] at h1
     simp only[Option.some.injEq] at h1
     subst h1
     obtain⟨g,cap,rfl,hmx,hc⟩:=row_cells hown h0
     have hc0:=hc _ hq
     unfold S at hc0
     have hc1:w1.cell? ⟨g,(st.length-1)/4,none⟩=some (.string ⟨(Pm.pick st).toArray⟩):=hc0
     generalize hx:Pm.pick st=x at hc1 hl H1
     obtain⟨xb,hxb⟩:∃xb:ByteArray,xb=⟨x.toArray⟩:=⟨_,rfl⟩
     have hxl:xb.size≤11:=by rw[hxb];exact hl
     rw[←hxb] at hc1
     have HXB:=z9 hxb
     obtain⟨X,hX⟩:∃X:ByteArray,Utf8.encode (97+n)=X:=⟨_,rfl⟩
     have HX:Hid (X=⟨#[UInt8.ofNat (97+n.toNat)]⟩):=by
      unfold Hid;rw[←hX];exact enc_letter (97+n) n.toNat (by omega) (by omega)
     have hXs:X.size=1:=by rw[HX.out];rfl
     clear hc hc0 hx hxb hown
     go_wp2_with fail
     go_ret2
     refine⟨?_,hbel⟩
     rw[H1.out,H2.out,S,←add_letter,←HXB.out,←HX.out]
     rfl
    ·rw[HS.out] at h1;cases h1
  ·have H1:Hid (Pm.betText a.toList b.toList n=[]):=by unfold Hid Pm.betText;simp[h]
   have H2:Hid (Pm.betErr a.toList b.toList n=Pm.sides a.toList b.toList):=by unfold Hid Pm.betErr Pm.roomErr;simp[h,hw]
   have H:=z9 h
   clear h hw
   go_enter Tryz.func91,Tryz.ntmps91
   go_wp2_with (first | (go_at_call 136;refine(isAuthor_any _ _).mono ?_;rintro e w' ⟨rfl,hw⟩;have hw2:=hw.symm;subst hw2;clear hw;rw[HW.out]) | (go_at_call 137;refine(stems_bad _ _ _ ha hb H.out).mono ?_;rintro e w' ⟨rfl,hw⟩;have hw2:=hw.symm;subst hw2;clear hw))
   go_ret2
   exact⟨by rw[H1.out,H2.out,errV,if_neg H.out];rfl,Below.refl _ _⟩
end Pe
end Go.Proofs.YtlmdchpbpgcfmaaGreatDoor
