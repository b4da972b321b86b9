import Derived.Test.YtiamefgoeibhhaaGreatDoorW0
import Derived.Test.YtiamefgoeibhhaaGreatDoorZ2
set_option linter.unusedVariables false
set_option maxRecDepth 100000
set_option maxHeartbeats 8000000
namespace Go.Proofs.YtiamefgoeibhhaaGreatDoor
namespace Rw1
open Go.ChangeShapes Go.WideShapes Go.ChangeAt Go.RowKit Ka Kb Rz1 Rw0
open La (bel)
def f0:ByteArray:=⟨#[116,121,112,101,32,48,32,48,32,104,105,10,115,101,110,100,32,48,32,49,10,102,108,121,10,115,104,111,119,32,49,10]⟩
def f1:ByteArray:=⟨#[111,107,10,111,107,10,98,97,100,10,39,104,105,39,10]⟩
def hi:ByteArray:=⟨#[104,105]⟩
theorem fact:sesT f0.toList=f1.toList:=by
 open Rz2 Rz3 Hc Hm in
 have e:f0.toList=glue [[116,121,112,101,32,48,32,48,32]++hi.toList,[115,101,110,100,32,48,32,49],[102,108,121],[115,104,111,119,32,49]]:=by kernel_rfl
 have hno:∀x ∈ ([[116,121,112,101,32,48,32,48,32]++hi.toList,[115,101,110,100,32,48,32,49],[102,108,121],[115,104,111,119,32,49]]:List Tx),(10:UInt8) ∉ x:=by decide +kernel
 have ht:Um.okText hi=true:=by kernel_rfl
 obtain⟨S,hS,hty⟩:=Rz2.typed ht (by decide) hi.size 0 Hm.d0 [Hm.d0,Hm.d0] (by omega) (Rz2.tz_zero hi)
 rw[List.drop_zero] at hty
 have k1:Ok ⟨[S,Hm.d0,Hm.d0],[]⟩:=by
  have h9:=Ok.typ hi.toList ok_nw 0 0
  have h8:typ (Hc.nw 3) 0 0 hi.toList=(0,⟨[S,Hm.d0,Hm.d0],[]⟩):=hty
  rw[h8] at h9;exact h9
 have s1:sent ⟨[S,Hm.d0,Hm.d0],[]⟩ ((0:Nat):Int) ((1:Nat):Int)=(0,⟨[S,S,Hm.d0],[]⟩):=by
  rw[Rz2.sent_ok k1 (a:=0) (b:=1) (by omega) (by omega) (by omega) (L:=S.ops) (Rz3.lack_all hS.dn.inv.right) hS.dn.goE]
  show(0,(⟨[S,Um.runS Hm.d0 S.ops,Hm.d0],[]⟩:Hc.Nt))=_
  rw[hS.dn.goS]
 have htx:Bm.text S.book=hi.toList:=by
  rw[hS.book,(Um.news_seen ht hi.size (Nat.le_refl _)).1];kernel_rfl
 unfold sesT
 rw[e,if_neg (by decide +kernel),Rz3.lines_glue _ hno]
 have c3:cmd [102,108,121]=.bad:=by kernel_rfl
 have c4:cmd [115,104,111,119,32,49]=.shw 1:=by kernel_rfl
 simp only[ans,Rz3.cmd1,Rz3.cmd2.1,c3,c4,doC_type,doC_send,doC_shw,doC_bad]
 have h8:typ (Hc.nw 3) ((0:Nat):Int) ((0:Nat):Int) hi.toList=(0,⟨[S,Hm.d0,Hm.d0],[]⟩):=hty
 rw[h8]
 dsimp only
 rw[s1]
 dsimp only
 rw[if_pos (by simp),show Hc.dq ⟨[S,S,Hm.d0],[]⟩ 1=S from rfl,htx]
 decide +kernel
theorem last_snoc {t:ByteArray} {k:Nat} (h:k<t.size):(t.toList.take (k+1)).getLast? =some t[k]:=by
 rw[Ka.take_snoc t k h,List.getLast?_concat]
theorem too_long {t:ByteArray} (h:3000<t.size):sesT t.toList=(⟨#[116,111,111,32,108,111,110,103,10]⟩:ByteArray).toList:=by
 unfold sesT;rw[if_pos (by rw[Kb.len_eq];exact h)];kernel_rfl
theorem walk {Q:World→Prop} (U:RunSays Q) (t:ByteArray) (m:Int) (w:World) (ht:t.size≤maxLen) (hm0: -9223372036854775808≤m) (hm1:m≤9223372036854775807) (hq:Q w):
  Calls Tryz.prog 4 #[.string t,.int .i64 m] w fun e w'=>e=.returned (.bool true)∧Below w.heap.size w w':=by
 have HU:=z9 U
 have HT:=z9 ht
 have HQ:=z9 hq
 have C0:=U.run' (t:=f0) (w:=w) hq (by unfold maxLen;decide) fact
 have htz:(t.size:Int)≤9223372036854775807:=by unfold maxLen at ht;omega
 have hfe:(f1.toList==[111,107,10,111,107,10,98,97,100,10,39,104,105,39,10])=true:=by decide +kernel
 unfold f0 at C0
 clear ht hq U
 by_cases h3:3000<t.size
 ·have h3z:(3000:Int)<t.size:=by omega
  have HTL:=z9 (too_long h3)
  clear h3
  go_enter Tryz.func4,Tryz.ntmps4
  go_wp2_with fail
  refine C0.mono ?_
  rintro e w1 ⟨rfl,hb1⟩
  have K1:=z9 hb1
  have C1:=HU.out.run' (t:=t) (w:=w1) (HU.out.keep HQ.out hb1) HT.out HTL.out
  clear hb1 C0
  go_wp2_with fail
  refine C1.mono ?_
  rintro e w2 ⟨rfl,hb2⟩
  have K2:=z9 (bel K1.out hb2)
  clear hb2 C1
  go_wp2_with fail
  go_ret
  exact⟨by first | rfl | (refine ret_bool ?_;simp),K2.out⟩
 ·have h3z:¬(3000:Int)<t.size:=by omega
  have HLE:Hid (t.toList.length≤3000):=by unfold Hid;rw[Kb.len_eq];omega
  clear h3
  go_enter Tryz.func4,Tryz.ntmps4
  go_wp2_with fail
  refine C0.mono ?_
  rintro e w1 ⟨rfl,hb1⟩
  have K1:=z9 hb1
  have HQ1:=z9 (HU.out.keep HQ.out hb1)
  clear hb1 C0 HQ
  go_wp2_with fail
  go_loop [7,8] (fun a b=>∃(k n:Nat),k≤t.size∧n≤k∧a=.int .i64 k∧b=.int .i64 n∧Hid (k=0∨(t.toList.take k).getLast? =some 10∨(n:Int)<m)) (fun a b=>t.size-(intOf a).toNat)
  case atStart=>exact⟨0,0,by omega,by omega,rfl,rfl,Or.inl rfl⟩
  case round=>
   obtain⟨k,n,hk,hnk,rfl,rfl,HB⟩:=hrel
   by_cases hgo:k<t.size∧(n:Int)<m
   ·obtain⟨g1,g2⟩:=hgo
    have g1z:(k:Int)<t.size:=by omega
    have hlast:=last_snoc g1
    have hb:t[k].toNat<256:=UInt8.toNat_lt _
    by_cases hc:t[k]=10
    ·have hcz:((t[k].toNat:Int)==10)=true:=by rw[hc];rfl
     have HB2:Hid ((t.toList.take (k+1)).getLast? =some 10):=by unfold Hid;rw[hlast,hc]
     clear hlast hc
     go_wp2
     go_round
     case rel=>exact⟨k+1,n+1,by omega,by omega,by go_num,by go_num,Or.inr (Or.inl HB2.out)⟩
     case measure=>simp[intOf];omega
    ·have hcz:((t[k].toNat:Int)==10)=false:=by
      rw[beq_eq_false_iff_ne];intro e;apply hc;apply UInt8.toNat_inj.1;show t[k].toNat=10;omega
     clear hlast hc
     go_wp2
     go_round
     case rel=>exact⟨k+1,n,by omega,by omega,by go_num,rfl,Or.inr (Or.inr g2)⟩
     case measure=>simp[intOf];omega
   ·have HBG:Hid (∃r,sesT t.toList=sesT (t.toList.take k)++r):=begins (by
     rcases HB.out with e | e | e
     ·exact Or.inl e
     ·exact Or.inr (Or.inl e)
     ·exact Or.inr (Or.inr (by rw[Kb.len_eq];omega))) HLE.out
    obtain⟨A,hA⟩:∃A:ByteArray,A=⟨(sesT (t.toList.take k)).toArray⟩:=⟨_,rfl⟩
    obtain⟨B,hB⟩:∃B:ByteArray,B=⟨(sesT t.toList).toArray⟩:=⟨_,rfl⟩
    have hAl:A.toList=sesT (t.toList.take k):=by rw[hA];exact Om.toList_mk _
    have hBl:B.toList=sesT t.toList:=by rw[hB];exact Om.toList_mk _
    have hex:(t.extract 0 k).toList=t.toList.take k:=by
     rw[ByteArray.toList_eq,ByteArray.toList_eq];simp[ByteArray.data_extract]
    have CA:=fun w h=>HU.out.run' (t:=t.extract 0 k) (w:=w) h (by have:=HT.out;rw[←Kb.len_eq,hex,List.length_take,Kb.len_eq];omega) (r:=A) (by rw[hex,hAl])
    have CB:=fun w h=>HU.out.run' (t:=t) (w:=w) h HT.out (r:=B) hBl.symm
    have hle:A.size≤B.size:=by
     obtain⟨r,hr⟩:=HBG.out
     rw[←Kb.len_eq,←Kb.len_eq,hAl,hBl,hr,List.length_append];omega
    have HPR:Hid ((B.extract 0 A.size).toList=A.toList):=by
     obtain⟨r,hr⟩:=HBG.out
     have h9:(B.extract 0 A.size).toList=B.toList.take A.size:=by
      rw[ByteArray.toList_eq,ByteArray.toList_eq];simp[ByteArray.data_extract]
     unfold Hid
     rw[h9,hBl,hr,←hAl,List.take_left' (Kb.len_eq A)]
    have hlez:(A.size:Int)≤B.size:=by omega
    have hpb:((B.extract 0 A.size).toList==A.toList)=true:=by rw[HPR.out];simp
    have HCA:Hid _:=CA
    have HCB:Hid _:=CB
    have t1:¬((k:Int)<t.size∧(n:Int)<m):=by omega
    clear hA hB hAl hBl hex CA CB HB
    by_cases hlt:(k:Int)<t.size
    ·have hnm:¬(n:Int)<m:=fun h=>t1 ⟨hlt,h⟩
     clear t1 hgo
     go_wp2_with fail
     refine(HCA.out w1 HQ1.out).mono ?_
     rintro e w2 ⟨rfl,hb2⟩
     have K2:=z9 (bel K1.out hb2)
     have HQ2:=z9 (HU.out.keep HQ1.out hb2)
     clear hb2
     go_wp2_with fail
     refine(HCB.out w2 HQ2.out).mono ?_
     rintro e w3 ⟨rfl,hb3⟩
     have K3:=z9 (bel K2.out hb3)
     clear hb3
     go_wp2_with fail
     go_ret
     exact⟨by first | rfl | (refine ret_bool ?_;simp[hpb]),K3.out⟩
    ·clear t1 hgo
     go_wp2_with fail
     refine(HCA.out w1 HQ1.out).mono ?_
     rintro e w2 ⟨rfl,hb2⟩
     have K2:=z9 (bel K1.out hb2)
     have HQ2:=z9 (HU.out.keep HQ1.out hb2)
     clear hb2
     go_wp2_with fail
     refine(HCB.out w2 HQ2.out).mono ?_
     rintro e w3 ⟨rfl,hb3⟩
     have K3:=z9 (bel K2.out hb3)
     clear hb3
     go_wp2_with fail
     go_ret
     exact⟨by first | rfl | (refine ret_bool ?_;simp[hpb]),K3.out⟩
end Rw1
end Go.Proofs.YtiamefgoeibhhaaGreatDoor
