import Derived.Test.YtlmdchpbpgcfmaaGreatDoorP3
set_option linter.unusedVariables false
set_option maxRecDepth 100000
set_option maxHeartbeats 8000000
/- What the reference's Quarter and Between answer. -/
namespace Go.Proofs.YtlmdchpbpgcfmaaGreatDoor
namespace Pm
def quarter (a b:List UInt8):List UInt8:=match search a b 11 [[]] with
 | none=>[]
 | some st=>pick st
theorem search_at {a b:List UInt8} {n:Nat} (h0:0<n) (h11:n≤11) (hne:lev a b n≠[]) (hno:∀j,0<j→j<n→lev a b j=[]):search a b 11 [[]]=some (lev a b n):=by
 rcases search_first a b with⟨m,h1,h2,h3,h4,h5⟩ | ⟨h1,h2⟩
 ·have hmn:m=n:=by
   rcases Nat.lt_trichotomy m n with h | h | h
   ·exact absurd (hno m h1 h) h3
   ·exact h
   ·exact absurd (h4 n h0 h) hne
  rw[←hmn];exact h5
 ·exact absurd (h1 n h0 h11) hne
theorem search_never {a b:List UInt8} (hno:∀j,0<j→j<12→lev a b j=[]):search a b 11 [[]]=none:=by
 rcases search_first a b with⟨m,h1,h2,h3,h4,h5⟩ | ⟨h1,h2⟩
 ·exact absurd (hno m h1 (by omega)) h3
 ·exact h2
theorem quarter_ne {a b:List UInt8}:(quarter a b=[]↔search a b 11 [[]]=none)∧(quarter a b).length≤11:=by
 unfold quarter
 cases hs:search a b 11 [[]] with
 | none=>simp
 | some st=>
  obtain⟨hne,m,hm1,hm2,hfl,_⟩:=search_found 11 0 [[]] st Flat.start hs
  have h0:0<st.length:=by cases st with
   | nil=>exact absurd rfl hne
   | cons _ _=>simp
  have hq:(st.length-1)/4<st.length:=by omega
  have e:pick st=st[(st.length-1)/4]:=by unfold pick;rw[List.getD_eq_getElem?_getD,List.getElem?_eq_getElem hq];rfl
  have hl:=(hfl _ (List.getElem_mem hq)).1
  simp only[e]
  refine⟨⟨fun h=> ?_,fun h=>by cases h⟩,by omega⟩
  rw[h] at hl;simp at hl;omega
theorem quarter_room (a b:List UInt8) (hs:sides a b=0):roomErr a b=(if quarter a b=[] then 8 else 0)∧roomLen a b=(if quarter a b=[] then 0 else((quarter a b).length:Int)+1):=by
 cases hf:search a b 11 [[]] with
 | none=>
  have hq:quarter a b=[]:=quarter_ne.1.2 hf
  simp[roomErr,roomLen,hs,hf,hq]
 | some st=>
  have hq:quarter a b≠[]:=fun h=>by have:=quarter_ne.1.1 h;rw[hf] at this;cases this
  obtain⟨hne,m,hm1,hm2,hfl,_⟩:=search_found 11 0 [[]] st Flat.start hf
  have h0:0<st.length:=by cases st with
   | nil=>exact absurd rfl hne
   | cons _ _=>simp
  have hqq:(st.length-1)/4<st.length:=by omega
  have e:quarter a b=st[(st.length-1)/4]:=by unfold quarter;rw[hf];show pick st=_;unfold pick;rw[List.getD_eq_getElem?_getD,List.getElem?_eq_getElem hqq];rfl
  have e0:st.getD 0 []=st[0]:=by rw[List.getD_eq_getElem?_getD,List.getElem?_eq_getElem h0];rfl
  have l1:=(hfl _ (List.getElem_mem hqq)).1
  have l0:=(hfl _ (List.getElem_mem h0)).1
  rw[if_neg hq,if_neg hq,e,l1]
  simp only[roomErr,roomLen,hs,hf]
  rw[e0,l0]
  simp
theorem quarter_bet (a b:List UInt8) (who:Int) (hw:isWho who=true) (hs:sides a b=0):
  betErr a b who=(if quarter a b=[] then 8 else 0)∧betText a b who=(if quarter a b=[] then[] else quarter a b++[UInt8.ofNat (97+who.toNat)]):=by
 constructor
 ·unfold betErr;rw[hw];exact(quarter_room a b hs).1
 ·cases hf:search a b 11 [[]] with
  | none=>
   have hq:quarter a b=[]:=quarter_ne.1.2 hf
   simp[betText,hw,hs,hf,hq]
  | some st=>
   have hq:quarter a b≠[]:=fun h=>by have:=quarter_ne.1.1 h;rw[hf] at this;cases this
   rw[if_neg hq]
   simp only[betText,hw,hs,hf,quarter]
   simp
end Pm
namespace Qh
open Go.RowKit Pa Pb Pc Pd Pe Qa Qb Qc Qd Qe Qf Qg
theorem nil_toList:(⟨#[]⟩:ByteArray).toList=[]:=ByteArray.toList_mk []
theorem nil_size:(⟨#[]⟩:ByteArray).size=0:=rfl
theorem quarter_ref (a b:ByteArray) (w:World) (hb:b.size≤maxLen):
  Calls Tryz.prog 186 #[.string a,.string b] w fun e w'=>∃r:ByteArray,e=.returned (.string r)∧r.toList=Pm.quarter a.toList b.toList∧Below w.heap.size w w':=by
 go_enter Tryz.func186,Tryz.ntmps186
 go_wp2
 go_loopw [5] (fun i wr=>∃n:Nat,1≤n∧n≤12∧i=.int .i64 n∧Hid (∀j,0<j→j<n→Pm.lev a.toList b.toList j=[])∧Below w.heap.size w wr) (fun i _=>12-(intOf i).toNat)
 case atStart=>exact⟨1,by omega,by omega,rfl,fun j h1 h2=>by omega,Below.refl _ _⟩
 case round=>
  obtain⟨n,hn1,hn12,rfl,HNo,hbel⟩:=hrel
  by_cases hlt:n≤11
  ·have HM:=z9 (many_any a b n hb hn1 hlt n)
   have HL:Hid ((Pm.run a.toList b.toList (⟨#[]⟩:ByteArray).toList n)=Pm.lev a.toList b.toList n):=by unfold Hid;rw[nil_toList,Pm.run_lev]
   obtain⟨m,hm⟩:∃m:Nat,m=(Pm.run a.toList b.toList (⟨#[]⟩:ByteArray).toList n).length:=⟨_,rfl⟩
   have HMm:=z9 hm
   have hm1:m≤3670344486987776:=by rw[hm];exact Nat.le_trans (Pm.run_le _ _ _ _) (pow26 _ (by omega))
   clear hm
   rcases Nat.eq_zero_or_pos m with h0 | h0
   ·have HE:Hid (Pm.lev a.toList b.toList n=[]):=by
     unfold Hid;rw[←HL.out];exact List.eq_nil_of_length_eq_zero (by rw[←HMm.out];exact h0)
    subst h0
    go_wp2_with fail
    refine(HM.out ⟨#[]⟩ _ (by rw[nil_size];omega)).mono ?_
    rintro e w1 ⟨rfl,hb1⟩
    rw[←HMm.out]
    have hb2:Below w.heap.size w w1:=hbel.trans (hb1.mono hbel.size)
    clear hb1
    go_wp2_with fail
    go_roundw
    case rel=>exact⟨n+1,by omega,by omega,by go_num,fun j h1 h2=>by
     rcases Nat.lt_or_ge j n with h | h
     ·exact HNo.out j h1 h
     ·rw[show j=n from by omega];exact HE.out,hb2⟩
    case measure=>simp[intOf];omega
   ·have HQ:Hid (At a.toList b.toList (Pm.quarter a.toList b.toList) (⟨#[]⟩:ByteArray).toList n (((m:Int)-1)/4)):=by
     unfold Hid
     have hne:Pm.lev a.toList b.toList n≠[]:=by
      rw[←HL.out];intro e
      have:=HMm.out
      rw[e] at this;simp at this;omega
     have hs:=Pm.search_at (by omega) hlt hne HNo.out
     refine⟨(m-1)/4,by omega, ?_⟩
     have hlen:m=(Pm.lev a.toList b.toList n).length:=by rw[HMm.out,HL.out]
     have hq:(m-1)/4<(Pm.lev a.toList b.toList n).length:=by omega
     rw[HL.out,List.getElem?_eq_getElem hq]
     unfold Pm.quarter
     rw[hs]
     show _=some (Pm.pick (Pm.lev a.toList b.toList n))
     unfold Pm.pick
     rw[←hlen,List.getD_eq_getElem?_getD,List.getElem?_eq_getElem hq];rfl
    go_wp2_with fail
    refine(HM.out ⟨#[]⟩ _ (by rw[nil_size];omega)).mono ?_
    rintro e w1 ⟨rfl,hb1⟩
    rw[←HMm.out]
    have hb2:Below w.heap.size w w1:=hbel.trans (hb1.mono hbel.size)
    clear hb1
    go_wp2_with fail
    refine(nth_any a b n n _ _ ⟨#[]⟩ _ hb hn1 hlt (by rw[nil_size];omega) HQ.out).mono ?_
    rintro e w2 ⟨r,rfl,hr,hb3⟩
    have hb4:Below w.heap.size w w2:=hb2.trans (hb3.mono hb2.size)
    have HR:=z9 hr
    clear hb3 hr
    go_wp2_with fail
    go_ret
    exact⟨r,rfl,HR.out,hb4⟩
  ·have HS:Hid (Pm.quarter a.toList b.toList=[]):=by
    unfold Hid
    refine Pm.quarter_ne.1.2 (Pm.search_never ?_)
    intro j h1 h2
    exact HNo.out j h1 (by omega)
   go_wp2_with fail
   go_ret
   exact⟨⟨#[]⟩,rfl,by rw[HS.out,nil_toList],hbel⟩
end Qh
end Go.Proofs.YtlmdchpbpgcfmaaGreatDoor
/- What the reference's Between answers. -/
namespace Go.Proofs.YtlmdchpbpgcfmaaGreatDoor
namespace Qi
open Go.RowKit Pa Pb Pc Pd Pe Qa Qb Qc Qd Qe Qf Qg Qh
theorem between_ref (a b : ByteArray) (who : Int) (w : World) (ha : a.size ≤ maxLen) (hb : b.size ≤ maxLen) (h1 : 1 ≤ who) (h8 : who ≤ 8) (tb : ByteArray) (htb : tb = ⟨(Pm.betText a.toList b.toList who).toArray⟩) (eb : Int) (heb : Pm.betErr a.toList b.toList who = eb) :
  Calls Tryz.prog 158 #[.string a, .string b, .int .i64 who] w fun e w' => e = .returned (.tuple #[.string tb, .int .i64 eb]) ∧ Below w.heap.size w w' := by
 have hwho : Pm.isWho who = true := by simp [Pm.isWho, h1, h8]
 by_cases hs : Pm.sides a.toList b.toList = 0
 ·obtain ⟨q1, q2⟩ := Pm.quarter_bet a.toList b.toList who hwho hs
  have HS := z9 hs
  by_cases hq : Pm.quarter a.toList b.toList = []
  ·rw [if_pos hq] at q1 q2
   have HE : Hid (eb = 8) := by unfold Hid; rw [← heb, q1]
   have HT : Hid (tb = ⟨#[]⟩) := by unfold Hid; rw [htb, q2]
   have HQ := z9 hq
   clear hs hq q1 q2 heb htb
   go_enter Tryz.func158, Tryz.ntmps158
   go_wp2_with fail
   refine (two_ref a b _ ha hb).mono ?_
   rintro e w' ⟨rfl, hw⟩
   have hw2 := hw.symm; subst hw2; clear hw
   rw [HS.out]
   go_wp2_with fail
   refine (quarter_ref a b _ hb).mono ?_
   rintro e w1 ⟨r, rfl, hr, hb1⟩
   have hre : r.toList.isEmpty = true := by rw [hr, HQ.out]; rfl
   clear hr
   go_wp2_with fail
   go_ret2
   exact ⟨by rw [HE.out, HT.out]; rfl, hb1⟩
  ·rw [if_neg hq] at q1 q2
   have HE : Hid (eb = 0) := by unfold Hid; rw [← heb, q1]
   have HQ := z9 hq
   have HQ11 : Hid ((Pm.quarter a.toList b.toList).length ≤ 11) := Pm.quarter_ne.2
   have HT : Hid (tb = ⟨(Pm.quarter a.toList b.toList ++ [UInt8.ofNat (97 + who.toNat)]).toArray⟩) := by unfold Hid; rw [htb, q2]
   have HC : Hid (97 + who = ((UInt8.ofNat (97 + who.toNat)).toNat : Int)) := by
    have : (UInt8.ofNat (97 + who.toNat)).toNat = 97 + who.toNat := by simp; omega
    unfold Hid; rw [this]; omega
   clear hs hq q1 q2 heb htb
   go_enter Tryz.func158, Tryz.ntmps158
   go_wp2_with fail
   refine (two_ref a b _ ha hb).mono ?_
   rintro e w' ⟨rfl, hw⟩
   have hw2 := hw.symm; subst hw2; clear hw
   rw [HS.out]
   go_wp2_with fail
   refine (quarter_ref a b _ hb).mono ?_
   rintro e w1 ⟨r, rfl, hr, hb1⟩
   have hre : r.toList.isEmpty = false := by
    rw [hr]; cases hc : Pm.quarter a.toList b.toList with
    | nil => exact absurd hc HQ.out
    | cons _ _ => rfl
   have hr11 : r.size ≤ 11 := by rw [← len_eq, hr]; exact HQ11.out
   have HT2 : Hid (tb = ⟨(r.toList ++ [UInt8.ofNat (97 + who.toNat)]).toArray⟩) := by unfold Hid; rw [hr]; exact HT.out
   have hcv := fun w => run_bytes_of_string (P := Tryz.prog) w 9 178 5 r Tryz.underlying9 Tryz.underlying178 Tryz.underlying5
   clear hr
   go_wp2_with (at_builtin; refine wpList_push_laid w1 rfl (.tmp 24) (.tmp 28) rfl w1.heap.size r _ (UInt8.ofNat (97 + who.toNat)) _ rfl rfl (by omega) (Nat.le_refl _) HC.out tb HT2.out ?_; intro g cap w2 hb2 hrd; have hcv2 := hrd w2 (Below.refl _ _); clear hcv hrd)
   go_ret2
   exact ⟨by rw [HE.out]; rfl, hb1.trans (hb2.mono hb1.size)⟩
 ·have q1 : Pm.betErr a.toList b.toList who = Pm.sides a.toList b.toList := by unfold Pm.betErr Pm.roomErr; simp [hwho, hs]
  have q2 : Pm.betText a.toList b.toList who = [] := by unfold Pm.betText; simp [hs]
  obtain ⟨cs, hcs⟩ : ∃ cs, Pm.sides a.toList b.toList = cs := ⟨_, rfl⟩
  have HCS := z9 hcs
  have ncs : (cs == 0) = false := by rw [beq_eq_false_iff_ne, ← hcs]; exact hs
  have HE : Hid (eb = cs) := by unfold Hid; rw [← heb, q1, hcs]
  have HT : Hid (tb = ⟨#[]⟩) := by unfold Hid; rw [htb, q2]
  clear hs q1 q2 heb htb hcs
  go_enter Tryz.func158, Tryz.ntmps158
  go_wp2_with fail
  refine (two_ref a b _ ha hb).mono ?_
  rintro e w' ⟨rfl, hw⟩
  have hw2 := hw.symm; subst hw2; clear hw
  rw [HCS.out]
  go_wp2_with fail
  go_ret2
  exact ⟨by rw [HE.out, HT.out]; rfl, Below.refl _ _⟩
end Qi
end Go.Proofs.YtlmdchpbpgcfmaaGreatDoor
