/- FindTells: the walk. -/
import Derived.Test.YtlmdchpbpgcfmaaGreatDoorF11
import Derived.Deep.DeepCutAuto
import Derived.Deep.CutRange
set_option linter.unusedSimpArgs false
set_option linter.unusedVariables false
set_option maxRecDepth 100000
set_option maxHeartbeats 8000000
namespace Go.Proofs.YtlmdchpbpgcfmaaGreatDoor
namespace F12
open Go.ChangeShapes Go.WideShapes Go.ChangeAt Go.RowKit Cm Ka Kb Na Om Oa Oz Oc Og Oi Hm Ia Ic Ie Ik Im Il Um Ua Fj Ac Xp Utp Uvp Uwp Uxp F6 F7 F10 F11
open La (bel bel_drew errV_zero errV_ne own_below)
open F2 (ML allE allR)
open Fnn (intsV)
open Iq (run run_next off_old)
theorem in_old {w:World} {v:Value} {l:List Dt} (h:DtsAt w v l):In (fun g=>g<w.heap.size) v:=Ac.dts_in h
theorem words_few (t:ByteArray):(F3.wordsR t).length≤301:=by
 unfold F3.wordsR
 by_cases h:300<t.size
 ·rw[if_pos h];exact Nat.zero_le _
 ·rw[if_neg h]
  have:=(F3.words_len t.toList).1
  rw[Kb.len_eq] at this
  omega
theorem lines_few (t:ByteArray) (n:Int):(F5.linesR t n).length≤1000:=by
 unfold F5.linesR
 by_cases h:F5.linesE t n=0
 ·rw[if_pos h]
  have hz:1≤n∧t.size≤300:=by
   unfold F5.linesE at h
   by_cases h1:300<t.size
   ·rw[if_pos h1] at h;exact absurd h (by decide)
   ·by_cases h2:n<1∨100<n
    ·rw[if_neg h1,if_pos h2] at h;exact absurd h (by decide)
    ·exact⟨by omega,by omega⟩
  have h9:=F5.fold_len (n:=n.toNat) (by omega) (Fi.words t.toList) []
  have h8:=(F3.words_len t.toList).1
  have h7:=List.length_filter_le (fun x:UInt8=>x !=32) t.toList
  rw[←Fi.words_flat] at h7
  rw[Kb.len_eq] at h8 h7
  have h5:([]:List (List UInt8)).length=0:=rfl
  unfold Fi.lines
  omega
 ·rw[if_neg h];exact Nat.zero_le _
theorem all_few (t p:ByteArray):(allR t p).length≤300:=by
 unfold allR
 by_cases h:allE t p=0
 ·rw[if_pos h]
  unfold allE at h
  by_cases c1:300<t.size∨200<p.size
  ·rw[if_pos c1] at h;exact absurd h (by decide)
  ·by_cases c2:p.size=0
   ·rw[if_neg c1,if_pos c2] at h;exact absurd h (by decide)
   ·have hpn:p.toList≠[]:=fun e=>c2 (by rw[←Kb.len_eq,e];rfl)
    have h3:=Fi.room (t:=t.toList) hpn (t.toList.length+1) 0 (Nat.zero_le _)
    have h4:=Nat.le_mul_of_pos_right (Fi.allF t.toList p.toList (t.toList.length+1) 0).length (List.length_pos_iff.2 hpn)
    unfold Fi.all
    rw[Kb.len_eq t] at h3 h4 ⊢
    omega
 ·rw[if_neg h];exact Nat.zero_le _
theorem walk (vl:Value) (l:List Ox) (who:Int) (p b t:ByteArray) (wd:Int) (w:World) (hl:OpsAt w vl l) (hsz:∀x ∈ l,x.2.2.1.size≤maxLen) (hp:p.size≤maxLen) (hb:b.size≤maxLen) (ht:t.size≤maxLen) (hM:ML w) (hg:Kt.ET w):
  Calls Tryz.prog 6 #[vl,.int .i64 who,.string p,.string b,.string t,.int .i64 wd] w fun e w'=>e=.returned (.bool true)∧Below w.heap.size w w':=by
 obtain⟨ql,cl,rfl,hlin,_⟩:=hl
 obtain⟨n,hn⟩:∃n,n=l.length:=⟨_,rfl⟩
 rw[←hn]
 have HN:=z9 hn.symm
 have HLI:=z9 hlin
 have HSZ:=z9 hsz
 have HMX:Hid (p.size≤maxLen∧b.size≤maxLen∧t.size≤maxLen):=⟨hp,hb,ht⟩
 have HM:=z9 hM
 have HG:=z9 hg
 have htz:(t.size:Int)≤9223372036854775807:=by unfold maxLen at ht;omega
 have hpz:(p.size:Int)≤9223372036854775807:=by unfold maxLen at hp;omega
 clear hlin hsz hn ht hp hb hM hg
 go_enter Tryz.func6,Tryz.ntmps6
 go_upto_region 2 with fail
 go_cut [40] from 33 to 40 (fun s40 wx=>∃q:Bool,s40=.bool q∧Hid (q=decide (300<t.size∨200<p.size))∧w=wx)
 case first=>
  by_cases h1:300<t.size
  ·have h1z:(300:Int)<t.size:=by omega
   have H1:Hid (decide (300<t.size∨200<p.size)=true):=decide_eq_true (Or.inl h1)
   go_wp2_with fail
   go_meet
   case rel=>exact⟨true,rfl,H1.out.symm,rfl⟩
  ·have h1z:¬(300:Int)<t.size:=by omega
   by_cases h2:200<p.size
   ·have h2z:(200:Int)<p.size:=by omega
    have H1:Hid (decide (300<t.size∨200<p.size)=true):=decide_eq_true (Or.inr h2)
    go_wp2_with fail
    go_meet
    case rel=>exact⟨true,by simp[h2],H1.out.symm,rfl⟩
   ·have h2z:¬(200:Int)<p.size:=by omega
    have H1:Hid (decide (300<t.size∨200<p.size)=false):=decide_eq_false (by omega)
    go_wp2_with fail
    go_meet
    case rel=>exact⟨false,by simp[h2],H1.out.symm,rfl⟩
 case rest=>
 obtain⟨q0,rfl,HQ0,rfl⟩:=hcut
 obtain⟨E1,hE1⟩:∃E1,E1=allE t p:=⟨_,rfl⟩
 have HE1:=z9 hE1
 clear hE1
 go_upto_if 40 with fail
 go_cut [13] from 41 to 42 (fun s13 wx=>s13=.int .i64 E1∧w=wx)
 case first=>
  cases q0
  case true=>
   have H4:Hid (E1=4):=by rw[Hid,HE1.out];unfold allE;rw[if_pos (of_decide_eq_true HQ0.out.symm)]
   go_wp2_with fail
   go_meet
   case rel=>exact⟨by rw[H4.out],rfl⟩
  case false=>
   have hc:=of_decide_eq_false HQ0.out.symm
   by_cases h0:p.size=0
   ·have hpe:=F2.nil_of h0
    have H4:Hid (E1=3):=by rw[Hid,HE1.out];unfold allE;rw[if_neg hc,if_pos h0]
    have pe:(p.toList==[])=true:=by rw[hpe,ByteArray.toList_eq];rfl
    clear hc h0 hpe
    go_wp2_with fail
    go_meet
    case rel=>exact⟨by rw[H4.out],rfl⟩
   ·have H4:Hid (E1=0):=by rw[Hid,HE1.out];unfold allE;rw[if_neg hc,if_neg h0]
    have pe:(p.toList==[])=false:=by rw[beq_eq_false_iff_ne];intro e;exact h0 (by rw[←Kb.len_eq,e];rfl)
    clear hc h0
    go_wp2_with fail
    go_meet
    case rel=>exact⟨by rw[H4.out],rfl⟩
 case rest=>
 obtain⟨rfl,rfl⟩:=hcut
 clear HQ0
 obtain⟨A,hA⟩:∃A,A=allR t p:=⟨_,rfl⟩
 have HAE:=z9 hA
 have HAF:Hid (A.length≤300):=by rw[Hid,hA];exact all_few t p
 obtain⟨m,hm⟩:∃m,A.length=m:=⟨_,rfl⟩
 have HMA:=z9 hm
 clear hA hm
 go_upto_if 44 with fail
 go_cut [13,14] from 43 to 47 (fun s13 s14 wx=>s13=.int .i64 E1∧∃q c,s14=.slice q m c∧Hid (Za.IntsIn wx q (A.map fun (x:Nat)=>(x:Int)))∧Hid (Below w.heap.size w wx))
 case first=>
  by_cases h0:E1=0
  ·have hk0:allE t p=0:=by rw[←HE1.out];exact h0
   have hb0:(E1==0)=true:=by simpa using h0
   have HA0:Hid (A=Fi.all t.toList p.toList):=by rw[Hid,HAE.out];unfold allR;rw[if_pos hk0]
   have hz:t.size≤300∧p.size≤200∧p.size≠0:=by
    unfold allE at hk0
    by_cases c1:300<t.size∨200<p.size
    ·rw[if_pos c1] at hk0;exact absurd hk0 (by decide)
    ·by_cases c2:p.size=0
     ·rw[if_neg c1,if_pos c2] at hk0;exact absurd hk0 (by decide)
     ·exact⟨by omega,by omega,c2⟩
   have C:=Fnn.all_ref t p w (fun e=>hz.2.2 (by rw[←Kb.len_eq,e];rfl)) (Kb.len_eq t) (Kb.len_eq p) hz.1 hz.2.1
   rw[←HA0.out] at C
   have H0:=z9 h0
   clear h0 hk0 hz
   go_wp2_with fail
   refine C.mono ?_
   rintro e w1 ⟨v1,rfl,ho1,hb1⟩
   obtain⟨q1,c1,rfl⟩:=F5.own_shape ho1
   have HI1:=z9 (ints_in ho1)
   have HB1:=z9 hb1
   clear C ho1 hb1
   go_wp2_with fail
   go_meet
   case rel=>exact⟨by rw[H0.out],q1,c1,by rw[HMA.out],HI1,HB1⟩
  ·have hb0:(E1==0)=false:=by simpa using h0
   have HA0:Hid (A=[]):=by
    rw[Hid,HAE.out];unfold allR;rw[if_neg (by rw[←HE1.out];exact h0)]
   clear h0
   go_wp2_with fail
   go_meet
   case rel=>exact⟨rfl,none,0,by rw[←HMA.out,HA0.out];rfl,Or.inl (by rw[HA0.out];rfl),Below.refl _ _⟩
 case rest=>
 obtain⟨rfl,qa,ca,rfl,HIA,HB1⟩:=hcut
 obtain⟨w1,hw1⟩:∃w1,w1=wc:=⟨_,rfl⟩
 rw[←hw1] at HIA HB1 ⊢
 clear hw1
 go_wp2_with fail
 refine(F2.all_any t p w1 (HM.out.below HB1.out) HMX.out.2.2 HMX.out.1).mono ?_
 rintro e w2 ⟨v2,he2,ho2,hb2⟩
 rw[←HE1.out] at he2
 rw[←HAE.out] at ho2
 obtain⟨q2,c2,rfl⟩:=F5.own_shape ho2
 have HI2:=z9 (ints_in ho2)
 have HIA2:=z9 (HIA.out.below hb2)
 have HB2:=z9 (bel HB1.out hb2)
 have CE:=err_same E1 w2 (Kl.ET.below HG.out HB2.out)
 obtain⟨ev,hev⟩:∃ev,errV E1=ev:=⟨_,rfl⟩
 rw[hev] at he2 CE
 rw[HMA.out] at he2
 subst he2
 clear ho2 hb2 hev HIA HB1
 go_wp2_with fail
 refine CE.mono ?_
 rintro e w3 ⟨rfl,hb3⟩
 have HB3:=z9 (bel HB2.out hb3)
 have CI:=ints_same q2 qa m c2 ca A w3 (HI2.out.below hb3) (HIA2.out.below hb3) HMA.out (by have:=HAF.out;have:=HMA.out;omega)
 clear CE hb3 HB2 HI2 HIA2
 go_wp2_with fail
 refine CI.mono ?_
 rintro e w4 ⟨rfl,hb4⟩
 have HB4:=z9 (bel HB3.out hb4)
 clear CI hb4 HB3 HAF HMA HAE HE1
 obtain⟨E2,hE2⟩:∃E2,E2=F3.wordsE t:=⟨_,rfl⟩
 have HE2:=z9 hE2
 clear hE2
 go_upto_if 62 with fail
 go_cut [13] from 63 to 63 (fun s13 wx=>s13=.int .i64 E2∧w4=wx)
 case first=>
  by_cases h1:300<t.size
  ·have h1z:(300:Int)<t.size:=by omega
   have H4:Hid (E2=4):=by rw[Hid,HE2.out];unfold F3.wordsE;rw[if_pos h1]
   go_wp2_with fail
   go_meet
   case rel=>exact⟨by rw[H4.out],rfl⟩
  ·have h1z:¬(300:Int)<t.size:=by omega
   have H4:Hid (E2=0):=by rw[Hid,HE2.out];unfold F3.wordsE;rw[if_neg h1]
   go_wp2_with fail
   go_meet
   case rel=>exact⟨by rw[H4.out],rfl⟩
 case rest=>
 obtain⟨rfl,rfl⟩:=hcut
 go_upto_if 64 with fail
 go_cut [13,19] from 63 to 66 (fun s13 s19 wx=>s13=.int .i64 E2∧∃q c nW ws,s19=.slice q nW c∧Hid (ws.length=nW)∧Hid (ws.map (fun (b:ByteArray)=>b.toList)=F3.wordsR t)∧Hid (Tx wx q ws)∧Hid (Below w.heap.size w wx))
 case first=>
  by_cases h0:E2=0
  ·have ht3:t.size≤300:=by
    rw[HE2.out] at h0
    unfold F3.wordsE at h0
    by_cases h1:300<t.size
    ·rw[if_pos h1] at h0;exact absurd h0 (by decide)
    ·omega
   have hb0:(E2==0)=true:=by simpa using h0
   have HWR:Hid (F3.wordsR t=Fi.words t.toList):=by unfold Hid F3.wordsR;rw[if_neg (by omega)]
   have C:=Fs.words_ref t w4 ht3
   have H0:=z9 h0
   clear h0
   go_wp2_with fail
   refine C.mono ?_
   rintro e w5 ⟨v5,ws,rfl,hws,ho5,hb5⟩
   obtain⟨q5,c5,rfl⟩:=F5.own_shape ho5
   have HT5:=z9 (Tx.own ho5)
   have HW5:Hid (ws.map (fun (b:ByteArray)=>b.toList)=F3.wordsR t):=by rw[Hid,HWR.out];exact hws
   have HB5:=z9 (bel HB4.out hb5)
   clear C ho5 hb5 hws
   obtain⟨nW,hnW⟩:∃nW,ws.length=nW:=⟨_,rfl⟩
   rw[hnW]
   have HNW:=z9 hnW
   clear hnW
   go_wp2_with fail
   go_meet
   case rel=>exact⟨by rw[H0.out],q5,c5,nW,ws,rfl,HNW,HW5,HT5,HB5⟩
  ·have hb0:(E2==0)=false:=by simpa using h0
   have HWR:Hid (F3.wordsR t=[]):=by
    rw[HE2.out] at h0
    unfold F3.wordsE at h0
    unfold Hid F3.wordsR
    by_cases h1:300<t.size
    ·rw[if_pos h1]
    ·rw[if_neg h1] at h0;exact absurd rfl h0
   clear h0
   go_wp2_with fail
   go_meet
   case rel=>exact⟨rfl,none,0,0,[],rfl,rfl,by rw[Hid,HWR.out];rfl,(fun j hj=>by cases hj),HB4⟩
 case rest=>
 obtain⟨rfl,qw,cw,nW,ws,rfl,HNW,HWS,HTW,HB5⟩:=hcut
 obtain⟨w5,hw5⟩:∃w5,w5=wc:=⟨_,rfl⟩
 rw[←hw5] at HTW HB5 ⊢
 have hnW3:nW≤301:=by
  have h9:=congrArg List.length HWS.out
  rw[List.length_map,HNW.out] at h9
  have:=words_few t
  omega
 clear hw5 HB4
 go_wp2_with fail
 refine(F3.words_any t w5 HMX.out.2.2).mono ?_
 rintro e w6 ⟨v6,ws2,he6,hws6,ho6,hb6⟩
 have hwe:ws2=ws:=list_inj (hws6.trans HWS.out.symm)
 subst hwe
 rw[←HE2.out] at he6
 obtain⟨q6,c6,rfl⟩:=F5.own_shape ho6
 have HT6:=z9 (Tx.own ho6)
 have HTW6:=z9 (HTW.out.below hb6)
 have HB6:=z9 (bel HB5.out hb6)
 have CE:=err_same E2 w6 (Kl.ET.below HG.out HB6.out)
 obtain⟨ev6,hev6⟩:∃ev6,errV E2=ev6:=⟨_,rfl⟩
 rw[hev6] at he6 CE
 rw[HNW.out] at he6
 subst he6
 clear ho6 hb6 hev6 HTW HB5 hws6
 go_wp2_with fail
 refine CE.mono ?_
 rintro e w7 ⟨rfl,hb7⟩
 have HB7:=z9 (bel HB6.out hb7)
 have CI:=texts_same q6 qw nW c6 cw ws2 w7 (HT6.out.below hb7) (HTW6.out.below hb7) HNW.out (by omega)
 clear CE hb7 HB6 HT6 HTW6
 go_wp2_with fail
 refine CI.mono ?_
 rintro e w8 ⟨rfl,hb8⟩
 have HB8:=z9 (bel HB7.out hb8)
 clear CI hb8 HB7 HWS HNW hnW3
 obtain⟨E3,hE3⟩:∃E3,E3=F5.linesE t wd:=⟨_,rfl⟩
 have HE3:=z9 hE3
 clear hE3
 go_upto_region 21 with fail
 go_cut [87] from 78 to 87 (fun s87 wx=>∃q:Bool,s87=.bool q∧Hid (q=decide (E2=0∧(wd<1∨100<wd)))∧w8=wx)
 case first=>
  by_cases h0:E2=0
  ·subst h0
   by_cases h1:wd<1
   ·have H1:Hid (decide ((0:Int)=0∧(wd<1∨100<wd))=true):=decide_eq_true ⟨rfl,Or.inl h1⟩
    go_wp2_with fail
    go_meet
    case rel=>exact⟨true,by simp[h1],H1.out.symm,rfl⟩
   ·by_cases h2:100<wd
    ·have H1:Hid (decide ((0:Int)=0∧(wd<1∨100<wd))=true):=decide_eq_true ⟨rfl,Or.inr h2⟩
     go_wp2_with fail
     go_meet
     case rel=>exact⟨true,by simp[h1,h2],H1.out.symm,rfl⟩
    ·have H1:Hid (decide ((0:Int)=0∧(wd<1∨100<wd))=false):=decide_eq_false (fun e=>by omega)
     go_wp2_with fail
     go_meet
     case rel=>exact⟨false,by simp[h1,h2],H1.out.symm,rfl⟩
  ·have hb0:(E2==0)=false:=by simpa using h0
   have H1:Hid (decide (E2=0∧(wd<1∨100<wd))=false):=decide_eq_false (fun e=>h0 e.1)
   go_wp2_with fail
   go_meet
   case rel=>exact⟨false,rfl,H1.out.symm,rfl⟩
 case rest=>
 obtain⟨q3,rfl,HQ3,rfl⟩:=hcut
 go_upto_if 87 with fail
 go_cut [13] from 87 to 87 (fun s13 wx=>s13=.int .i64 E3∧w8=wx)
 case first=>
  cases q3
  case true=>
   have hc:=of_decide_eq_true HQ3.out.symm
   have H4:Hid (E3=1):=by
    have h9:=hc.1
    rw[HE2.out] at h9
    unfold F3.wordsE at h9
    rw[Hid,HE3.out];unfold F5.linesE
    by_cases h1:300<t.size
    ·rw[if_pos h1] at h9;exact absurd h9 (by decide)
    ·rw[if_neg h1,if_pos hc.2]
   clear hc
   go_wp2_with fail
   go_meet
   case rel=>exact⟨by rw[H4.out],rfl⟩
  case false=>
   have hc:=of_decide_eq_false HQ3.out.symm
   have H4:Hid (E3=E2):=by
    rw[Hid,HE3.out,HE2.out]
    rw[HE2.out] at hc
    unfold F5.linesE F3.wordsE
    unfold F3.wordsE at hc
    by_cases h1:300<t.size
    ·rw[if_pos h1,if_pos h1]
    ·rw[if_neg h1] at hc ⊢
     rw[if_neg h1,if_neg (fun e=>hc ⟨rfl,e⟩)]
   clear hc
   go_wp2_with fail
   go_meet
   case rel=>exact⟨by rw[H4.out],rfl⟩
 case rest=>
 obtain⟨rfl,rfl⟩:=hcut
 clear HQ3
 go_upto_if 89 with fail
 go_cut [13,20] from 88 to 92 (fun s13 s20 wx=>s13=.int .i64 E3∧∃q c nL L,s20=.slice q nL c∧Hid (L.length=nL)∧Hid (L.map (fun (b:ByteArray)=>b.toList)=F5.linesR t wd)∧Hid (Tx wx q L)∧Hid (Below w.heap.size w wx))
 case first=>
  by_cases h0:E3=0
  ·have hz:1≤wd∧wd≤100∧t.size≤300:=by
    rw[HE3.out] at h0
    unfold F5.linesE at h0
    by_cases h1:300<t.size
    ·rw[if_pos h1] at h0;exact absurd h0 (by decide)
    ·by_cases h2:wd<1∨100<wd
     ·rw[if_neg h1,if_pos h2] at h0;exact absurd h0 (by decide)
     ·exact⟨by omega,by omega,by omega⟩
   have hb0:(E3==0)=true:=by simpa using h0
   have HWR:Hid (F5.linesR t wd=Fi.lines wd.toNat t.toList):=by unfold Hid F5.linesR;rw[if_pos (by rw[←HE3.out];exact h0)]
   have C:=F9.lines_ref t wd.toNat w8 hz.2.2 (by omega) (by omega)
   rw[show((wd.toNat:Nat):Int)=wd by omega] at C
   have H0:=z9 h0
   clear h0 hz
   go_wp2_with fail
   refine C.mono ?_
   rintro e w9 ⟨v9,L,rfl,hL,ho9,hb9⟩
   obtain⟨q9,c9,rfl⟩:=F5.own_shape ho9
   have HT9:=z9 (Tx.own ho9)
   have HL9:Hid (L.map (fun (b:ByteArray)=>b.toList)=F5.linesR t wd):=by rw[Hid,HWR.out];exact hL
   have HB9:=z9 (bel HB8.out hb9)
   clear C ho9 hb9 hL
   obtain⟨nL,hnL⟩:∃nL,L.length=nL:=⟨_,rfl⟩
   rw[hnL]
   have HNL:=z9 hnL
   clear hnL
   go_wp2_with fail
   go_meet
   case rel=>exact⟨by rw[H0.out],q9,c9,nL,L,rfl,HNL,HL9,HT9,HB9⟩
  ·have hb0:(E3==0)=false:=by simpa using h0
   have HWR:Hid (F5.linesR t wd=[]):=by unfold Hid F5.linesR;rw[if_neg (by rw[←HE3.out];exact h0)]
   clear h0
   go_wp2_with fail
   go_meet
   case rel=>exact⟨rfl,none,0,0,[],rfl,rfl,by rw[Hid,HWR.out];rfl,(fun j hj=>by cases hj),HB8⟩
 case rest=>
 obtain⟨rfl,qL,cL,nL,L,rfl,HNL,HLL,HTL,HB9⟩:=hcut
 obtain⟨w9,hw9⟩:∃w9,w9=wc:=⟨_,rfl⟩
 rw[←hw9] at HTL HB9 ⊢
 have hnL3:nL≤1000:=by
  have h9:=congrArg List.length HLL.out
  rw[List.length_map,HNL.out] at h9
  have:=lines_few t wd
  omega
 clear hw9 HB8
 go_wp2_with fail
 refine(F5.lines_any t wd w9 HMX.out.2.2).mono ?_
 rintro e w10 ⟨v10,L2,he10,hL10,ho10,hb10⟩
 have hle:L2=L:=list_inj (hL10.trans HLL.out.symm)
 subst hle
 rw[←HE3.out] at he10
 obtain⟨q10,c10,rfl⟩:=F5.own_shape ho10
 have HT10:=z9 (Tx.own ho10)
 have HTL10:=z9 (HTL.out.below hb10)
 have HB10:=z9 (bel HB9.out hb10)
 have CE:=err_same E3 w10 (Kl.ET.below HG.out HB10.out)
 obtain⟨ev10,hev10⟩:∃ev10,errV E3=ev10:=⟨_,rfl⟩
 rw[hev10] at he10 CE
 rw[HNL.out] at he10
 subst he10
 clear ho10 hb10 hev10 HTL HB9 hL10
 go_wp2_with fail
 refine CE.mono ?_
 rintro e w11 ⟨rfl,hb11⟩
 have HB11:=z9 (bel HB10.out hb11)
 have CI:=texts_same q10 qL nL c10 cL L2 w11 (HT10.out.below hb11) (HTL10.out.below hb11) HNL.out (by omega)
 clear CE hb11 HB10 HT10 HTL10
 go_wp2_with fail
 refine CI.mono ?_
 rintro e w12 ⟨rfl,hb12⟩
 have HB12:=z9 (bel HB11.out hb12)
 clear CI hb12 HB11 HLL HNL hnL3 HE2 HE3
 go_wp2_with fail
 refine(new_any w12).mono ?_
 rintro e w13 ⟨D,F1,rfl,hd1,hf1,hb1⟩
 have HD1:=z9 hd1
 have HF1:Hid (∀g,F1 g→w.heap.size≤g):=fun g hg=>Nat.le_trans HB12.out.size (hf1 g hg)
 have HB13:=z9 (bel HB12.out hb1)
 clear hd1 hf1 hb1 HB12
 go_wp2_with fail
 refine(Xq.new_ref (fun g=>g<w.heap.size) w13 (fun g hg=>Nat.lt_of_lt_of_le hg HB13.out.size)).mono ?_
 rintro e w14 ⟨E,F2',rfl,hd2,hf2,hb2⟩
 have HE2:=z9 hd2
 have HD2:=z9 (HD1.out.below hb2)
 have HX2:Hid (∀g,F2' g→¬F1 g):=fun g h2 h1=>by have:=hf2 g h2;have:=HD1.out.lt g h1;omega
 have HB14:=z9 (bel HB13.out hb2)
 clear hd2 hf2 hb2 HD1 HB13
 go_wp2_with fail
 go_loopw [28] (fun vi wr=>∃(k:Nat) (Fd Fr:Nat→Prop),k≤n∧k≤60∧vi=.int .i64 k∧Hid (DocAt wr D (run l k) Fd)∧Hid (RefAt (fun g=>g<w.heap.size) wr E (run l k) Fr)∧Hid (∀g,Fd g→w.heap.size≤g)∧Hid (∀g,Fr g→¬Fd g)∧Hid (Below w.heap.size w wr)) (fun vi _=>60-(intOf vi).toNat)
 case atStart=>exact⟨0,F1,F2',by omega,by omega,rfl,HD2,HE2,HF1,HX2,HB14⟩
 case round=>
  clear HD2 HE2 HF1 HX2 HB14
  obtain⟨k,Fd,Fr,hk,hk60,rfl,HDk,HEk,HFk,HXk,HBk⟩:=hrel
  go_upto_region 31 with fail
  go_cut [114] from 107 to 128 (fun s43 wx=>∃t:Bool,s43=.bool t∧Hid (t=decide (k<n∧k<60))∧wr=wx)
  case first=>
   by_cases h1:k<n
   ·have h1z:(k:Int)<n:=by omega
    by_cases h2:k<60
    ·have h2z:(k:Int)<60:=by omega
     go_wp2_with fail
     go_meet
     case rel=>exact⟨true,rfl,(decide_eq_true ⟨h1,h2⟩).symm,rfl⟩
    ·have h2z:¬(k:Int)<60:=by omega
     have H2:Hid (decide (k<n∧k<60)=false):=decide_eq_false (fun h=>h2 h.2)
     go_wp2_with fail
     go_meet
     case rel=>exact⟨false,by simp[h2],H2.out.symm,rfl⟩
   ·have h1z:¬(k:Int)<n:=by omega
    have H2:Hid (decide (k<n∧k<60)=false):=decide_eq_false (fun h=>h1 h.1)
    go_wp2_with fail
    go_meet
    case rel=>exact⟨false,rfl,H2.out.symm,rfl⟩
  case rest=>
  obtain⟨tt,rfl,HTT,rfl⟩:=hcut
  cases tt
  case true=>
   obtain⟨hlt1,hlt2⟩:=of_decide_eq_true HTT.out.symm
   have hltz:(k:Int)<n:=by omega
   have hkl:k<l.length:=by rw[HN.out];exact hlt1
   obtain⟨bo,oo,rfl,hc⟩:=HLI.out.some (by intro e;rw[e] at hkl;simp at hkl)
   have ha0:=hc k hkl
   have hxm:=HSZ.out _ (getO_mem hkl)
   have HRN:=z9 (run_next hkl)
   obtain⟨x,hx⟩:∃x,x=l.getD k oz:=⟨_,rfl⟩
   rw[←hx] at ha0 hxm HRN
   obtain⟨⟨xa,xb⟩,xt,xp,xc,xs⟩:=x
   obtain⟨vx,⟨g0,g1,g2,g3,g4,g5⟩,hdx0⟩:=ha0
   simp only at g0 g1 g2 g3 g4 g5 hdx0 hxm
   obtain⟨pv,nv,cv,rfl⟩:∃pv nv cv,vx=.slice pv nv cv:=by obtain⟨_,_,e9,_⟩:=hdx0;exact⟨_,_,_,e9⟩
   have hlt':=World.block_lt_of_cell? _ _ g0
   have HSX:Hid (∀W,Below w.heap.size w W→W.cell? ⟨bo,oo+k*6,none⟩=some (.int .i64 xa)∧W.cell? ⟨bo,oo+k*6+1,none⟩=some (.int .i64 xb)∧W.cell? ⟨bo,oo+k*6+2,none⟩=some (.int .i64 xt)∧W.cell? ⟨bo,oo+k*6+3,none⟩=some (.string xp)∧W.cell? ⟨bo,oo+k*6+4,none⟩=some (.int .i64 xc)∧W.cell? ⟨bo,oo+k*6+5,none⟩=some (.slice pv nv cv)):=fun W hb=>⟨keep_cell hb g0,keep_cell hb g1,keep_cell hb g2,keep_cell hb g3,keep_cell hb g4,keep_cell hb g5⟩
   have HDX:Hid (DtsAt w (.slice pv nv cv) xs∧xp.size≤maxLen):=⟨hdx0,hxm⟩
   have CR:=Xs.apply_ref (fun g=>g<w.heap.size) E (run l k) Fr xa xb xt xp xc (.slice pv nv cv) xs wr HEk.out (hdx0.below HBk.out) (in_old hdx0) hxm
   obtain⟨a0,a1,a2,a3,a4,a5⟩:=HSX.out wr HBk.out
   clear hc hx hkl hxm hdx0 g0 g1 g2 g3 g4 g5 hlt'
   go_wp2_with fail
   refine CR.mono ?_
   rintro e w15 ⟨he,F3',hd3,hc3,hf3⟩
   have HFR:Hid (∀g,Fr g→w.heap.size≤g):=fun g hg=>Nat.not_lt.1 (HEk.out.lt g hg).1
   have HE3:Hid (RefAt (fun g=>g<w.heap.size) w15 E (run l (k+1)) F3'):=by unfold Hid;rw[HRN.out];exact hd3
   have HB3:=z9 (hc3.below HFR.out HBk.out HBk.out.size)
   have HD3:=z9 (HDk.out.chg hc3 (fun g h1 h2=>HXk.out g h2 h1))
   have HX3:Hid (∀g,F3' g→¬Fd g):=fun g h1 h2=>by
    rcases hf3 g h1 with e9 | e9
    ·exact HXk.out g e9 h2
    ·have:=HDk.out.lt g h2;omega
   obtain⟨ev0,hev0⟩:∃ev0,ev0=Value.tuple #[.bool (isNew (run l k) ((xa,xb),xt,xp,xc,xs)),.int .i64 (apE (run l k) ((xa,xb),xt,xp,xc,xs))]:=⟨_,rfl⟩
   rw[←hev0] at he
   subst he
   have CD:=apply_any D (run l k) Fd xa xb xt xp xc (.slice pv nv cv) xs w15 HD3.out (HDX.out.1.below HB3.out) (off_old HDX.out.1 HFk.out) HDX.out.2
   clear hd3 hc3 hf3 CR a0 a1 a2 a3 a4 a5 hev0
   obtain⟨a0,a1,a2,a3,a4,a5⟩:=HSX.out w15 HB3.out
   go_wp2_with fail
   refine CD.mono ?_
   rintro e w16 ⟨he,_,F4,hd4,hc4,hf4⟩
   have HD4:Hid (DocAt w16 D (run l (k+1)) F4):=by unfold Hid;rw[HRN.out];exact hd4
   have HB4:=z9 (hc4.below HFk.out HB3.out HB3.out.size)
   have HF4:Hid (∀g,F4 g→w.heap.size≤g):=fun g hg=>by
    rcases hf4 g hg with e9 | e9
    ·exact HFk.out g e9
    ·exact Nat.le_trans HB3.out.size e9
   have HE4:=z9 (HE3.out.chg hc4 (fun g h9 h8=>by have:=HFk.out g h9;omega) HX3.out)
   have HX4:Hid (∀g,F3' g→¬F4 g):=fun g h1 h2=>by
    rcases hf4 g h2 with e9 | e9
    ·exact HX3.out g h1 e9
    ·have:=(HE3.out.lt g h1).2;omega
   obtain⟨ev1,hev1⟩:∃ev1,ev1=Value.tuple #[.bool (isNew (run l k) ((xa,xb),xt,xp,xc,xs)),errV (apE (run l k) ((xa,xb),xt,xp,xc,xs))]:=⟨_,rfl⟩
   rw[←hev1] at he
   subst he
   clear hd4 hc4 hf4 CD a0 a1 a2 a3 a4 a5 hev1 HDk HEk HFk HXk HBk
   go_wp2_with fail
   go_roundw
   case rel=>exact⟨k+1,F4,F3',by omega,by omega,by go_num,HD4,HE4,HF4,HX4,HB4⟩
   case measure=>simp[intOf];omega
  case false=>
   obtain⟨S,hS⟩:∃S,S=run l k:=⟨_,rfl⟩
   have HI:Hid (Inv S):=by unfold Hid;rw[hS];exact Iq.run_inv l k
   have HRS:Hid (Rep S):=by unfold Hid;rw[hS];exact rep_run l k (by rw[HN.out];exact hk)
   rw[←hS] at HDk HEk
   clear hS HSZ HLI HTT
   have CR:=rreplace_any (fun g=>g<w.heap.size) E S Fr who p b wr HEk.out HMX.out.1 HMX.out.2.1
   go_wp2_with fail
   refine CR.mono ?_
   intro e w15 h15
   obtain⟨p15,n15,c15,he15,ho15,hb15⟩:=rf_at h15
   have HB15:=z9 (bel HBk.out hb15)
   have HD15:=z9 (HDk.out.below hb15)
   have HO15:=z9 ho15
   have CP:=replace_any D S Fd who p b w15 HD15.out HRS.out (HM.out.below HB15.out) HMX.out.1 HMX.out.2.1
   have HSM:=Hid.mk9 (rep_small (who:=who) (p:=p) (b:=b) HI.out)
   have CS:Hid (∀W v u,OpsAt W v (outL (repE S who p b) (repL S who p b))→OpsAt W u (outL (repE S who p b) (repL S who p b))→Calls Tryz.prog 35 #[v,u] W fun e w'=>e=.returned (.bool true)∧Below W.heap.size W w'):=fun W v u h1 h2=>(Ol.same_ops v u _ _ W h1 h2 HSM.out.1 HSM.out.2).mono fun e w' ⟨h1,h2⟩=>⟨by rw[h1];simp,h2⟩
   have CE:Hid (∀W,Below w.heap.size w W→Calls Tryz.prog 11 #[errV (repE S who p b),.int .i64 (repE S who p b)] W fun e w'=>e=.returned (.bool true)∧Below W.heap.size W w'):=fun W hb=>err_same _ W (Kl.ET.below HG.out hb)
   have CP2:Hid (∀e w',RePost w15 (repE S who p b) (repL S who p b) e w'→∃pz nz cz,e=.returned (.tuple #[.slice pz nz cz,errV (repE S who p b)])∧OpsAt w' (.slice pz nz cz) (outL (repE S who p b) (repL S who p b))∧Below w15.heap.size w15 w'):=fun e w' h9=>re_at h9
   obtain⟨R,hR⟩:∃R,R=outL (repE S who p b) (repL S who p b):=⟨_,rfl⟩
   rw[←hR] at HO15 CS CP2
   obtain⟨kz,hkz⟩:∃kz,kz=repE S who p b:=⟨_,rfl⟩
   rw[←hkz] at he15 CP CE CP2
   subst he15
   clear CR h15 ho15 hb15 hR hkz HSM
   go_wp2_with fail
   refine CP.mono ?_
   intro e w16 h16
   obtain⟨p16,n16,c16,he16,ho16,hb16⟩:=CP2.out e w16 h16
   have HB16:=z9 (bel HB15.out hb16)
   have HO16:=z9 ho16
   have HO15b:=z9 (HO15.out.below hb16)
   have CE2:=CE.out w16 HB16.out
   obtain⟨ev16,hev16⟩:∃ev16,errV kz=ev16:=⟨_,rfl⟩
   rw[hev16] at he16 CE2
   subst he16
   clear CP CP2 h16 ho16 hb16 hev16 CE HO15
   go_wp2_with fail
   refine CE2.mono ?_
   rintro e w17 ⟨rfl,hb17⟩
   have HB17:=z9 (bel HB16.out hb17)
   have CS2:=CS.out w17 (.slice p16 n16 c16) (.slice p15 n15 c15) (HO16.out.below hb17) (HO15b.out.below hb17)
   clear CE2 hb17 CS
   go_wp2_with fail
   refine CS2.mono ?_
   rintro e w18 ⟨rfl,hb18⟩
   have HB18:=z9 (bel HB17.out hb18)
   clear CS2 hb18
   go_wp2_with fail
   go_ret
   exact⟨rfl,HB18.out⟩
end F12
end Go.Proofs.YtlmdchpbpgcfmaaGreatDoor
