import Derived.Test.YtlmdchpbpgcfmaaGreatDoorJ7
import Derived.Test.YtlmdchpbpgcfmaaGreatDoorK2
import Derived.Laws.StructEq
set_option linter.unusedVariables false
set_option maxRecDepth 100000
set_option maxHeartbeats 8000000
/- What the reference says of an op: Dot, Letter, Dots, Op. -/
namespace Go.Proofs.YtlmdchpbpgcfmaaGreatDoor
namespace Ob
open Go.ChangeShapes Go.WideShapes Go.ChangeAt Go.RowKit Cm Ka Kb Na Om Oa Oz Wp
open La (bel bel_drew errV_zero errV_ne own_ge own_grow own_below)
theorem less_ref (a1 a2 b1 b2:Int) (w:World):
  Calls Tryz.prog 145 #[.agg #[.int .i64 a1,.int .i64 a2],.agg #[.int .i64 b1,.int .i64 b2]] w fun e w'=>e=.returned (.bool (dlt (a1,a2) (b1,b2)))∧Below w.heap.size w w':=by
 have HB:Hid (∀O1 O2,Below w.heap.size w ((w.alloc O1).alloc O2)):=fun O1 O2=>((Below.refl _ w).alloc (Nat.le_refl _) _).alloc (by simp) _
 have HD:Hid (dlt (a1,a2) (b1,b2)=(decide (a1<b1)||(decide (a1=b1)&&decide (a2<b2)))):=rfl
 by_cases h1:a1<b1
 ·rw[HD.out,decide_eq_true h1]
  clear HD
  go_enter Tryz.func145,Tryz.ntmps145
  go_wp2
  go_ret
  exact⟨rfl,HB.out _ _⟩
 ·by_cases h2:a1=b1
  ·subst h2
   by_cases h3:a2<b2
   ·rw[HD.out,decide_eq_false h1,decide_eq_true rfl,decide_eq_true h3]
    clear HD
    go_enter Tryz.func145,Tryz.ntmps145
    go_wp2
    go_ret
    exact⟨by first | rfl | (refine ret_bool ?_;simp;omega),HB.out _ _⟩
   ·rw[HD.out,decide_eq_false h1,decide_eq_true rfl,decide_eq_false h3]
    clear HD
    go_enter Tryz.func145,Tryz.ntmps145
    go_wp2
    go_ret
    exact⟨by first | rfl | (refine ret_bool ?_;simp;omega),HB.out _ _⟩
  ·rw[HD.out,decide_eq_false h1,decide_eq_false h2]
   have h2b:(a1==b1)=false:=by simpa using h2
   clear HD
   go_enter Tryz.func145,Tryz.ntmps145
   go_wp2
   go_ret
   exact⟨rfl,HB.out _ _⟩
theorem dot_ref (who m:Int) (w:World):
  Calls Tryz.prog 102 #[.agg #[.int .i64 who,.int .i64 m]] w fun e w'=>e=.returned (.int .i64 (dotE who m))∧Below w.heap.size w w':=by
 go_enter Tryz.func102,Tryz.ntmps102
 go_wp2
 all_goals
  go_ret
  refine⟨?_,(Below.refl _ w).alloc (Nat.le_refl _) _⟩
  unfold dotE
  first
   | (rw[if_pos (by omega)];rfl)
   | (rw[if_neg (by omega)];rfl)
def lawAt (t c:Int) (s:List Dt):Int:=if t=1∧isLetter c=false then 1 else if(t≠1∧c≠0)∨(t≠4∧s≠[]) then 3 else if 40<s.length then 4 else dotsE s
theorem letter_ref (n:Int) (w:World):
  Calls Tryz.prog 104 #[.int .i64 n] w fun e w'=>e=.returned (.bool (isLetter n))∧w'=w:=by
 go_enter Tryz.func104,Tryz.ntmps104
 go_wp2
 all_goals
  go_ret
  exact⟨ret_bool (by first | (simp[isLetter, *];done) | (simp only[isLetter];rw[decide_eq_false (by omega)];rfl)),rfl⟩
theorem dots_ref (v:Value) (l:List Dt) (w:World) (hA:DtsAt w v l) (hn1:l.length≤40):
  Calls Tryz.prog 105 #[v] w fun e w'=>e=.returned (.int .i64 (dotsE l))∧Below w.heap.size w w':=by
 obtain⟨p,c,rfl,h,hc0,hcm,_⟩:=hA
 obtain⟨n,hl⟩:∃n,l.length=n:=⟨_,rfl⟩
 rw[hl] at hc0 hn1
 rw[hl]
 clear hc0 hcm
 have HL:=z9 hl
 have HI:=z9 h
 clear hl h
 go_enter Tryz.func105,Tryz.ntmps105
 go_wp2
 go_loopw [3] (fun i wr=>∃(k:Nat),k≤n∧i=.int .i64 k∧Hid (∀j,j<k→dotE (l.getD j noneD).1 (l.getD j noneD).2=0)∧Hid (Below w.heap.size w wr)) (fun i _=>n-(intOf i).toNat)
 case atStart=>exact⟨0,by omega,rfl,fun j hj=>absurd hj (by omega),Below.refl _ _⟩
 case round=>
  obtain⟨k,hk,rfl,HG,HB⟩:=hrel
  by_cases hlt:k<n
  ·have hltz:(k:Int)<n:=by omega
   obtain⟨b,o,rfl,hc⟩:=HI.out.some (by intro e;have:=HL.out;rw[e] at this;simp at this;omega)
   have hkl:k<l.length:=by rw[HL.out];exact hlt
   have ha:=(hc k hkl).below HB.out (hc k hkl).lt
   obtain⟨x,hx⟩:∃x,x=l.getD k noneD:=⟨_,rfl⟩
   rw[←hx] at ha
   have HX:=z9 hx
   obtain⟨x1,x2⟩:=x
   obtain⟨a1,a2⟩:=ha
   simp only at a1 a2
   clear hc hx
   have C:=dot_ref x1 x2 wr
   by_cases h0:dotE x1 x2=0
   ·rw[h0] at C
    have HG2:Hid (∀j,j<k+1→dotE (l.getD j noneD).1 (l.getD j noneD).2=0):=by
     intro j hj
     rcases Nat.lt_succ_iff_lt_or_eq.1 hj with h | rfl
     ·exact HG.out j h
     ·rw[←HX.out];exact h0
    clear h0
    go_wp2_with fail
    refine C.mono ?_
    rintro e w2 ⟨rfl,hb2⟩
    have HB2:=z9 (bel HB.out hb2)
    clear hb2 C a1 a2
    go_wp2_with fail
    go_roundw
    case rel=>exact⟨k+1,by omega,by go_num,HG2,HB2⟩
    case measure=>simp[intOf];omega
   ·obtain⟨q,hq⟩:∃q,q=dotE x1 x2:=⟨_,rfl⟩
    have HQ:Hid (dotsE l=q):=by
     unfold Hid;rw[dotsE_fault hkl HG.out (by rw[←HX.out];exact h0),←HX.out,hq]
    have hqb:(q !=0)=true:=by rw[hq];simpa using h0
    rw[←hq] at C
    clear h0 hq
    go_wp2_with fail
    refine C.mono ?_
    rintro e w2 ⟨rfl,hb2⟩
    have HB2:=z9 (bel HB.out hb2)
    clear hb2 C
    go_wp2_with fail
    go_ret
    exact⟨by rw[HQ.out];rfl,HB2.out⟩
  ·obtain rfl:k=n:=by omega
   have HZ:=z9 (all_zero (fun j hj=>HG.out j (by rw[←HL.out];exact hj)))
   clear HG hlt
   go_wp2_with fail
   go_loopw [5] (fun i wr2=>∃(m:Nat),(m=0∨m+1≤k)∧i=.int .i64 ((m+1:Nat):Int)∧Hid (∀j,j<m→dlt (l.getD j noneD) (l.getD (j+1) noneD)=true)∧Hid (Below w.heap.size w wr2)) (fun i _=>k+1-(intOf i).toNat)
   case atStart=>exact⟨0,Or.inl rfl,rfl,fun j hj=>absurd hj (by omega),HB⟩
   case round=>
    clear HB
    obtain⟨m,hm,rfl,HG,HB⟩:=hrel
    by_cases hlt:m+1<k
    ·obtain⟨j,hj⟩:∃j:Nat,j=m+1:=⟨_,rfl⟩
     have hltz:(j:Int)<k:=by omega
     obtain⟨b,o,rfl,hc⟩:=HI.out.some (by intro e;have:=HL.out;rw[e] at this;simp at this;omega)
     have hkl:m+1<l.length:=by rw[HL.out];exact hlt
     have ha:=(hc (m+1) hkl).below HB.out (hc (m+1) hkl).lt
     have hb:=(hc m (by omega)).below HB.out (hc m (by omega)).lt
     obtain⟨x,hx⟩:∃x,x=l.getD (m+1) noneD:=⟨_,rfl⟩
     obtain⟨y,hy⟩:∃y,y=l.getD m noneD:=⟨_,rfl⟩
     rw[←hx,←hj] at ha
     rw[←hy] at hb
     have HX:=z9 hx
     have HY:=z9 hy
     obtain⟨x1,x2⟩:=x
     obtain⟨y1,y2⟩:=y
     obtain⟨a1,a2⟩:=ha
     obtain⟨c1,c2⟩:=hb
     simp only at a1 a2 c1 c2
     have C2:=fun W=>less_ref y1 y2 x1 x2 W
     have hjm:IntKind.i64.wrap ((j:Int)-1)=(m:Int):=by rw[show(j:Int)-1=(m:Int) by omega];exact wrap_in (by omega) (by omega)
     have hmz:(m:Int)<k:=by omega
     have HJ:=z9 hj
     rw[←hj]
     clear hc hx hy
     cases hq:dlt (y1,y2) (x1,x2)
     ·rw[hq] at C2
      have HQ:=z9 (dotsE_seven HZ.out hkl (by rw[←HX.out,←HY.out];exact hq))
      clear hq hj
      go_wp2_with fail
      go_region_held3 (fun W=>W.cell? ⟨b,o+m*2,none⟩=some (.int .i64 y1)∧W.cell? ⟨b,o+m*2+1,none⟩=some (.int .i64 y2)∧W.cell? ⟨b,o+j*2,none⟩=some (.int .i64 x1)∧W.cell? ⟨b,o+j*2+1,none⟩=some (.int .i64 x2)) (first | (go_keep;done) | (refine⟨keep_cell hb7 ?_,keep_cell hb7 ?_,keep_cell hb7 ?_,keep_cell hb7 ?_⟩<;>(go_split_ands;assumption))) (first
       | (go_at_call 145;refine(C2 _).mono ?_;rintro e w7 ⟨rfl,hb7⟩;have HB7:=z9 (bel HB.out.drew hb7)))
      all_goals
       go_wp2_with fail
       go_ret
       exact⟨by rw[HQ.out];rfl,HB7.out⟩
     ·rw[hq] at C2
      have HG2:Hid (∀i,i<m+1→dlt (l.getD i noneD) (l.getD (i+1) noneD)=true):=by
       intro i hi
       rcases Nat.lt_succ_iff_lt_or_eq.1 hi with h | rfl
       ·exact HG.out i h
       ·rw[←HX.out,←HY.out];exact hq
      clear hq hj
      go_wp2_with fail
      go_region_held3 (fun W=>W.cell? ⟨b,o+m*2,none⟩=some (.int .i64 y1)∧W.cell? ⟨b,o+m*2+1,none⟩=some (.int .i64 y2)∧W.cell? ⟨b,o+j*2,none⟩=some (.int .i64 x1)∧W.cell? ⟨b,o+j*2+1,none⟩=some (.int .i64 x2)) (first | (go_keep;done) | (refine⟨keep_cell hb7 ?_,keep_cell hb7 ?_,keep_cell hb7 ?_,keep_cell hb7 ?_⟩<;>(go_split_ands;assumption))) (first
       | (go_at_call 145;refine(C2 _).mono ?_;rintro e w7 ⟨rfl,hb7⟩;have HB7:=z9 (bel HB.out.drew hb7)))
      all_goals
       go_wp2_with fail
       go_roundw
       case rel=>exact⟨m+1,Or.inr (by omega),by rw[HJ.out];go_num,HG2,HB7⟩
       case measure=>have:=HJ.out;simp[intOf];omega
    ·have HQ:=z9 (dotsE_ok HZ.out (fun i hi=>HG.out i (by rw[HL.out] at hi;omega)))
     obtain⟨j,hj⟩:∃j:Nat,j=m+1:=⟨_,rfl⟩
     have hltz:¬(j:Int)<k:=by omega
     rw[←hj]
     clear hj hm
     go_wp2_with fail
     go_ret
     exact⟨by rw[HQ.out];rfl,HB.out⟩
theorem op_ref (a b t:Int) (p:ByteArray) (c:Int) (vs:Value) (s:List Dt) (w:World) (hp:p.size≤maxLen) (hd:DtsAt w vs s):
  Calls Tryz.prog 61 #[.agg #[.int .i64 a,.int .i64 b,.int .i64 t,.string p,.int .i64 c,vs]] w fun e w'=>e=.returned (.int .i64 (opE ((a,b),t,p,c,s)))∧Below w.heap.size w w':=by
 have HB1:Hid (Below w.heap.size w (w.alloc (.cells #[.int .i64 a,.int .i64 b,.int .i64 t,.string p,.int .i64 c,vs] 75))):=(Below.refl _ w).alloc (Nat.le_refl _) _
 have H6:Hid (Six (w.alloc (.cells #[.int .i64 a,.int .i64 b,.int .i64 t,.string p,.int .i64 c,vs] 75)) w.heap.size a b t p c vs):=six_new _ _ _ _ _ _ _ _
 have CD:=fun W=>dot_ref a b W
 have CP:=fun W=>place_ref p W hp
 have CL:=fun W=>letter_ref c W
 have CS:Hid (s.length≤40→∀W,Below w.heap.size w W→Calls Tryz.prog 105 #[vs] W fun e w'=>e=.returned (.int .i64 (dotsE s))∧Below W.heap.size W w'):=fun h W hb=>dots_ref vs s W (hd.below hb) h
 have HOE:Hid True:=trivial
 obtain⟨ps,cs,hvs,_,hsc,hcm,_⟩:=id hd
 obtain⟨n,hn⟩:∃n,n=s.length:=⟨_,rfl⟩
 have hnm:n≤maxLen:=by omega
 unfold maxLen at hnm
 have HSN:Hid (s=[]↔n=0):=by rw[hn];exact List.length_eq_zero_iff.symm
 rw[←hn] at hvs CS
 have HLN:=z9 hn.symm
 subst hvs
 clear hn hsc hcm
 by_cases h1:dotE a b=0
 case neg=>
  obtain⟨q,hq⟩:∃q,q=dotE a b:=⟨_,rfl⟩
  have hqb:(q==0)=false:=by rw[hq];simpa using h1
  have hqn:(q !=0)=true:=by rw[hq];simpa using h1
  have HE:Hid (opE ((a,b),t,p,c,s)=q):=by
   unfold Hid opE;simp only
   rw[if_pos h1,hq]
  rw[←hq] at CD
  clear h1 hq CP CL CS
  clear hp hd HOE
  go_enter Tryz.func61,Tryz.ntmps61
  go_wp2_with fail
  refine(CD _).mono ?_
  rintro e w2 ⟨rfl,hb2⟩
  have HB2:=z9 (bel HB1.out hb2)
  obtain⟨d0,d1,d2,d3,d4,d5⟩:=H6.out.below hb2
  clear hb2 CD
  go_wp2_with fail
  go_ret
  exact⟨by rw[HE.out];rfl,HB2.out⟩
 rw[h1] at CD
 by_cases h2:t<1∨4<t
 ·have HE:Hid (opE ((a,b),t,p,c,s)=1):=by
   unfold Hid opE;simp only
   rw[if_neg (by simpa using h1),if_pos h2]
  clear h1 CP CL CS
  by_cases h3:t<1
  ·clear h2
   clear hp hd HOE
   go_enter Tryz.func61,Tryz.ntmps61
   go_wp2_with fail
   refine(CD _).mono ?_
   rintro e w2 ⟨rfl,hb2⟩
   have HB2:=z9 (bel HB1.out hb2)
   obtain⟨d0,d1,d2,d3,d4,d5⟩:=H6.out.below hb2
   clear hb2 CD
   go_wp2_with fail
   go_ret
   exact⟨by rw[HE.out];rfl,HB2.out⟩
  ·have h4:4<t:=by omega
   clear h2
   clear hp hd HOE
   go_enter Tryz.func61,Tryz.ntmps61
   go_wp2_with fail
   refine(CD _).mono ?_
   rintro e w2 ⟨rfl,hb2⟩
   have HB2:=z9 (bel HB1.out hb2)
   obtain⟨d0,d1,d2,d3,d4,d5⟩:=H6.out.below hb2
   clear hb2 CD
   go_wp2_with fail
   go_ret
   exact⟨by rw[HE.out];rfl,HB2.out⟩
 have h3:¬t<1:=by omega
 have h4:¬4<t:=by omega
 by_cases h5:Pm.chk p.toList=0
 case neg=>
  obtain⟨q,hq⟩:∃q,q=Pm.chk p.toList:=⟨_,rfl⟩
  have hqn:(q !=0)=true:=by rw[hq];simpa using h5
  have HE:Hid (opE ((a,b),t,p,c,s)=q):=by
   unfold Hid opE;simp only
   rw[if_neg (by simpa using h1),if_neg h2,if_pos h5,hq]
  rw[←hq] at CP
  clear h1 h2 h5 hq CL CS
  clear hp hd HOE
  go_enter Tryz.func61,Tryz.ntmps61
  go_wp2_with fail
  refine(CD _).mono ?_
  rintro e w2 ⟨rfl,hb2⟩
  have HB2:=z9 (bel HB1.out hb2)
  obtain⟨d0,d1,d2,d3,d4,d5⟩:=H6.out.below hb2
  clear hb2 CD
  go_wp2_with fail
  refine(CP _).mono ?_
  rintro e w3 ⟨rfl,hw⟩
  have hw2:=hw.symm;subst hw2;clear hw CP
  go_wp2_with fail
  go_ret
  exact⟨by rw[HE.out];rfl,HB2.out⟩
 rw[h5] at CP
 have HL:Hid (opE ((a,b),t,p,c,s)=lawOf ((a,b),t,p,c,s)):=by
  unfold Hid opE;simp only
  rw[if_neg (by simpa using h1),if_neg h2,if_neg (by simpa using h5)]
 rw[HL.out]
 have HLW:Hid (lawOf ((a,b),t,p,c,s)=lawAt t c s):=rfl
 rw[HLW.out]
 clear h1 h2 h5 HL HLW
 by_cases t1:t=1
 ·subst t1
  cases hl:isLetter c
  ·rw[hl] at CL
   have HE:Hid (lawAt 1 c s=1):=by
    unfold Hid lawAt;rw[if_pos ⟨rfl,hl⟩]
   rw[HE.out]
   clear HE hl CS
   clear hp hd HOE
   go_enter Tryz.func61,Tryz.ntmps61
   go_wp2_with fail
   refine(CD _).mono ?_
   rintro e w2 ⟨rfl,hb2⟩
   have HB2:=z9 (bel HB1.out hb2)
   obtain⟨d0,d1,d2,d3,d4,d5⟩:=H6.out.below hb2
   clear hb2 CD
   go_wp2_with fail
   refine(CP _).mono ?_
   rintro e w3 ⟨rfl,hw⟩
   have hw2:=hw.symm;subst hw2;clear hw CP
   go_wp2_with fail
   refine(CL _).mono ?_
   rintro e w3 ⟨rfl,hw⟩
   have hw2:=hw.symm;subst hw2;clear hw CL
   go_wp2_with fail
   go_ret
   exact⟨rfl,HB2.out⟩
  ·rw[hl] at CL
   by_cases hs0:n=0
   ·have HE:Hid (lawAt 1 c s=dotsE s):=by
     unfold Hid lawAt;rw[if_neg (fun e=>by rw[hl] at e;exact absurd e.2 (by decide)),if_neg (fun e=>by rcases e with⟨e,_⟩ | ⟨_,e⟩;exact e rfl;exact e (HSN.out.2 hs0)),if_neg (by rw[HLN.out];omega)]
    rw[HE.out]
    have CS2:=z9 (CS.out (by omega))
    clear HE hl CS
    subst hs0
    clear hp hd HOE
    go_enter Tryz.func61,Tryz.ntmps61
    go_wp2_with fail
    refine(CD _).mono ?_
    rintro e w2 ⟨rfl,hb2⟩
    have HB2:=z9 (bel HB1.out hb2)
    obtain⟨d0,d1,d2,d3,d4,d5⟩:=H6.out.below hb2
    clear hb2 CD
    go_wp2_with fail
    refine(CP _).mono ?_
    rintro e w3 ⟨rfl,hw⟩
    have hw2:=hw.symm;subst hw2;clear hw CP
    go_wp2_with fail
    refine(CL _).mono ?_
    rintro e w3 ⟨rfl,hw⟩
    have hw2:=hw.symm;subst hw2;clear hw CL
    go_wp2_with fail
    refine(CS2.out _ HB2.out).mono ?_
    rintro e w4 ⟨rfl,hb4⟩
    have HB4:=z9 (bel HB2.out hb4)
    clear hb4 CS2
    go_wp2_with fail
    go_ret
    exact⟨rfl,HB4.out⟩
   ·have HE:Hid (lawAt 1 c s=3):=by
     unfold Hid lawAt;rw[if_neg (fun e=>by rw[hl] at e;exact absurd e.2 (by decide)),if_pos (Or.inr ⟨by decide,fun e=>hs0 (HSN.out.1 e)⟩)]
    rw[HE.out]
    have hz:(0:Int)<n:=by omega
    clear HE hl CS hs0
    clear hp hd HOE
    go_enter Tryz.func61,Tryz.ntmps61
    go_wp2_with fail
    refine(CD _).mono ?_
    rintro e w2 ⟨rfl,hb2⟩
    have HB2:=z9 (bel HB1.out hb2)
    obtain⟨d0,d1,d2,d3,d4,d5⟩:=H6.out.below hb2
    clear hb2 CD
    go_wp2_with fail
    refine(CP _).mono ?_
    rintro e w3 ⟨rfl,hw⟩
    have hw2:=hw.symm;subst hw2;clear hw CP
    go_wp2_with fail
    refine(CL _).mono ?_
    rintro e w3 ⟨rfl,hw⟩
    have hw2:=hw.symm;subst hw2;clear hw CL
    go_wp2_with fail
    go_ret
    exact⟨rfl,HB2.out⟩
 ·have t1b:(t==1)=false:=by simpa using t1
  have t1n:(t !=1)=true:=by simpa using t1
  by_cases hc:c=0
  case neg=>
   have HE:Hid (lawAt t c s=3):=by
    unfold Hid lawAt;rw[if_neg (fun e=>t1 e.1),if_pos (Or.inl ⟨t1,hc⟩)]
   rw[HE.out]
   have hcn:(c !=0)=true:=by simpa using hc
   clear HE CS hc t1
   clear hp hd HOE
   go_enter Tryz.func61,Tryz.ntmps61
   go_wp2_with fail
   refine(CD _).mono ?_
   rintro e w2 ⟨rfl,hb2⟩
   have HB2:=z9 (bel HB1.out hb2)
   obtain⟨d0,d1,d2,d3,d4,d5⟩:=H6.out.below hb2
   clear hb2 CD
   go_wp2_with fail
   refine(CP _).mono ?_
   rintro e w3 ⟨rfl,hw⟩
   have hw2:=hw.symm;subst hw2;clear hw CP
   go_wp2_with fail
   refine(CL _).mono ?_
   rintro e w3 ⟨rfl,hw⟩
   have hw2:=hw.symm;subst hw2;clear hw CL
   go_wp2_with fail
   go_ret
   exact⟨rfl,HB2.out⟩
  subst hc
  by_cases t4:t=4
  ·subst t4
   by_cases h40:40<n
   ·have HE:Hid (lawAt 4 0 s=4):=by
     unfold Hid lawAt;rw[if_neg (fun e=>t1 e.1),if_neg (fun e=>by rcases e with⟨_,e⟩ | ⟨e,_⟩<;>exact e rfl),if_pos (by rw[HLN.out];exact h40)]
    rw[HE.out]
    have hz:(40:Int)<n:=by omega
    clear HE CS h40 t1 t1b t1n
    clear hp hd HOE
    go_enter Tryz.func61,Tryz.ntmps61
    go_wp2_with fail
    refine(CD _).mono ?_
    rintro e w2 ⟨rfl,hb2⟩
    have HB2:=z9 (bel HB1.out hb2)
    obtain⟨d0,d1,d2,d3,d4,d5⟩:=H6.out.below hb2
    clear hb2 CD
    go_wp2_with fail
    refine(CP _).mono ?_
    rintro e w3 ⟨rfl,hw⟩
    have hw2:=hw.symm;subst hw2;clear hw CP
    go_wp2_with fail
    refine(CL _).mono ?_
    rintro e w3 ⟨rfl,hw⟩
    have hw2:=hw.symm;subst hw2;clear hw CL
    go_wp2_with fail
    go_ret
    exact⟨rfl,HB2.out⟩
   ·have HE:Hid (lawAt 4 0 s=dotsE s):=by
     unfold Hid lawAt;rw[if_neg (fun e=>t1 e.1),if_neg (fun e=>by rcases e with⟨_,e⟩ | ⟨e,_⟩<;>exact e rfl),if_neg (by rw[HLN.out];exact h40)]
    rw[HE.out]
    have CS2:=z9 (CS.out (by omega))
    have hz:¬(40:Int)<n:=by omega
    clear HE CS h40 t1 t1b t1n
    clear hp hd HOE
    go_enter Tryz.func61,Tryz.ntmps61
    go_wp2_with fail
    refine(CD _).mono ?_
    rintro e w2 ⟨rfl,hb2⟩
    have HB2:=z9 (bel HB1.out hb2)
    obtain⟨d0,d1,d2,d3,d4,d5⟩:=H6.out.below hb2
    clear hb2 CD
    go_wp2_with fail
    refine(CP _).mono ?_
    rintro e w3 ⟨rfl,hw⟩
    have hw2:=hw.symm;subst hw2;clear hw CP
    go_wp2_with fail
    refine(CL _).mono ?_
    rintro e w3 ⟨rfl,hw⟩
    have hw2:=hw.symm;subst hw2;clear hw CL
    go_wp2_with fail
    refine(CS2.out _ HB2.out).mono ?_
    rintro e w4 ⟨rfl,hb4⟩
    have HB4:=z9 (bel HB2.out hb4)
    clear hb4 CS2
    go_wp2_with fail
    go_ret
    exact⟨rfl,HB4.out⟩
  ·have t4n:(t !=4)=true:=by simpa using t4
   by_cases hs0:n=0
   ·have HE:Hid (lawAt t 0 s=dotsE s):=by
     unfold Hid lawAt;rw[if_neg (fun e=>t1 e.1),if_neg (fun e=>by rcases e with⟨_,e⟩ | ⟨_,e⟩;exact e rfl;exact e (HSN.out.2 hs0)),if_neg (by rw[HLN.out];omega)]
    rw[HE.out]
    have CS2:=z9 (CS.out (by omega))
    clear HE CS t1 t4
    subst hs0
    clear hp hd HOE
    go_enter Tryz.func61,Tryz.ntmps61
    go_wp2_with fail
    refine(CD _).mono ?_
    rintro e w2 ⟨rfl,hb2⟩
    have HB2:=z9 (bel HB1.out hb2)
    obtain⟨d0,d1,d2,d3,d4,d5⟩:=H6.out.below hb2
    clear hb2 CD
    go_wp2_with fail
    refine(CP _).mono ?_
    rintro e w3 ⟨rfl,hw⟩
    have hw2:=hw.symm;subst hw2;clear hw CP
    go_wp2_with fail
    refine(CL _).mono ?_
    rintro e w3 ⟨rfl,hw⟩
    have hw2:=hw.symm;subst hw2;clear hw CL
    go_wp2_with fail
    refine(CS2.out _ HB2.out).mono ?_
    rintro e w4 ⟨rfl,hb4⟩
    have HB4:=z9 (bel HB2.out hb4)
    clear hb4 CS2
    go_wp2_with fail
    go_ret
    exact⟨rfl,HB4.out⟩
   ·have HE:Hid (lawAt t 0 s=3):=by
     unfold Hid lawAt;rw[if_neg (fun e=>t1 e.1),if_pos (Or.inr ⟨t4,fun e=>hs0 (HSN.out.1 e)⟩)]
    rw[HE.out]
    have hz:(0:Int)<n:=by omega
    clear HE CS hs0 t1 t4
    clear hp hd HOE
    go_enter Tryz.func61,Tryz.ntmps61
    go_wp2_with fail
    refine(CD _).mono ?_
    rintro e w2 ⟨rfl,hb2⟩
    have HB2:=z9 (bel HB1.out hb2)
    obtain⟨d0,d1,d2,d3,d4,d5⟩:=H6.out.below hb2
    clear hb2 CD
    go_wp2_with fail
    refine(CP _).mono ?_
    rintro e w3 ⟨rfl,hw⟩
    have hw2:=hw.symm;subst hw2;clear hw CP
    go_wp2_with fail
    refine(CL _).mono ?_
    rintro e w3 ⟨rfl,hw⟩
    have hw2:=hw.symm;subst hw2;clear hw CL
    go_wp2_with fail
    go_ret
    exact⟨rfl,HB2.out⟩
end Ob
end Go.Proofs.YtlmdchpbpgcfmaaGreatDoor
/- When two ops, two rows of ops are the same. -/
namespace Go.Proofs.YtlmdchpbpgcfmaaGreatDoor
namespace Ol
open Go.ChangeShapes Go.WideShapes Go.ChangeAt Go.RowKit Cm Ka Kb Na Om Oa Oz Oc Og Oi
open La (bel bel_drew errV_zero errV_ne own_ge own_grow own_below)
theorem dot_same {n m a b:Int}:decide (((n,a):Dt)=(m,b))=(n==m&&a==b):=by
 rw[Bool.eq_iff_iff];simp
theorem eql_dot (n m a b:Int) (w:World):(binOp .eql 72 (.agg #[.int .i64 n,.int .i64 a]) (.agg #[.int .i64 m,.int .i64 b])).run Tryz.prog w=.ok (.bool (decide (((n,a):Dt)=(m,b)))) w:=by
 have u3:=Tryz.underlying3
 have a3:=Tryz.isAgg3
 have z3:=Tryz.sizeOf3
 have hS:Tryz.prog.underlying 72=some (.struct (Tryz.prog.fieldsOf 72)):=by kernel_rfl
 have hp:Tryz.prog.stoodInHeld 72=false:=by kernel_rfl
 rw[run_eql_struct,show(10000:Nat)=9999+1 from rfl,run_equalIn_agg w 9999 72 _ _ hS hp]
 simp only[Program.fieldsOf,Tryz.underlying72]
 rw[dot_same]
 go_simp
 by_cases h2:n=m<;>by_cases h3:a=b<;>simp[h2,h3]
theorem neq_dot (n m a b:Int) (w:World):(binOp .neq 72 (.agg #[.int .i64 n,.int .i64 a]) (.agg #[.int .i64 m,.int .i64 b])).run Tryz.prog w=.ok (.bool (!decide (((n,a):Dt)=(m,b)))) w:=by
 have u3:=Tryz.underlying3
 have a3:=Tryz.isAgg3
 have z3:=Tryz.sizeOf3
 have hS:Tryz.prog.underlying 72=some (.struct (Tryz.prog.fieldsOf 72)):=by kernel_rfl
 have hp:Tryz.prog.stoodInHeld 72=false:=by kernel_rfl
 rw[run_neq_struct,show(10000:Nat)=9999+1 from rfl,run_equalIn_agg w 9999 72 _ _ hS hp]
 simp only[Program.fieldsOf,Tryz.underlying72]
 rw[dot_same]
 go_simp
 by_cases h2:n=m<;>by_cases h3:a=b<;>simp[h2,h3]
theorem dots_any (v u:Value) (a b:List Dt) (w:World) (h1:DtsAt w v a) (h2:DtsAt w u b) (hn:a.length≤1048576):
  Calls Tryz.prog 121 #[v,u] w fun e w'=>e=.returned (.bool (decide (a=b)))∧Below w.heap.size w w':=by
 obtain⟨p,c,rfl,hlf,_⟩:=h1
 obtain⟨q,d,rfl,hlg,_⟩:=h2
 obtain⟨n,ha⟩:∃n,a.length=n:=⟨_,rfl⟩
 obtain⟨m,hb⟩:∃m,b.length=m:=⟨_,rfl⟩
 rw[ha,hb]
 rw[ha] at hn
 by_cases hnm:n=m
 ·subst hnm
  have HA:=z9 ha
  have HB:=z9 hb
  have HF:=z9 hlf
  have HG:=z9 hlg
  clear ha hb hlf hlg
  go_enter Tryz.func121,Tryz.ntmps121
  go_wp2
  go_loopw [5] (fun i wr=>∃k:Nat,k≤n∧i=.int .i64 k∧Hid (∀j,j<k→a.getD j noneD=b.getD j noneD)∧Hid (Below w.heap.size w wr)) (fun i _=>n-(intOf i).toNat)
  case atStart=>exact⟨0,by omega,rfl,fun j hj=>absurd hj (by omega),Below.refl _ _⟩
  case round=>
   obtain⟨k,hk,rfl,HK,HBE⟩:=hrel
   by_cases hlt:k<n
   ·have hltz:(k:Int)<n:=by omega
    obtain⟨b1,o1,rfl,c1⟩:=HF.out.some (by intro e;have:=HA.out;rw[e] at this;simp at this;omega)
    obtain⟨b2,o2,rfl,c2⟩:=HG.out.some (by intro e;have:=HB.out;rw[e] at this;simp at this;omega)
    have e1:=(c1 k (by rw[HA.out];exact hlt)).below HBE.out (c1 k (by rw[HA.out];exact hlt)).lt
    have e2:=(c2 k (by rw[HB.out];exact hlt)).below HBE.out (c2 k (by rw[HB.out];exact hlt)).lt
    obtain⟨x,hx⟩:∃x,x=a.getD k noneD:=⟨_,rfl⟩
    obtain⟨y,hy⟩:∃y,y=b.getD k noneD:=⟨_,rfl⟩
    rw[←hx] at e1
    rw[←hy] at e2
    have HX:=z9 hx
    have HY:=z9 hy
    clear hx hy c1 c2
    obtain⟨nx,bx⟩:=x
    obtain⟨ny,by'⟩:=y
    obtain⟨x1,x2⟩:=e1
    obtain⟨y1,y2⟩:=e2
    simp only at x1 x2 y1 y2
    have hq:∀w,(binOp .neq 72 (.agg #[.int .i64 nx,.int .i64 bx]) (.agg #[.int .i64 ny,.int .i64 by'])).run Tryz.prog w=.ok (.bool (!decide (((nx,bx):Dt)=(ny,by')))) w:=fun w=>neq_dot nx ny bx by' w
    have hg:Tryz.prog.eqGuardType Tryz.prog.depth 72=false:=by kernel_rfl
    by_cases hxy:((nx,bx):Dt)=(ny,by')
    ·rw[decide_eq_true hxy] at hq
     have HXY:=z9 hxy
     clear hxy
     go_wp2
     go_quiet (fail)
     go_wp2
     go_roundw
     case rel=>exact⟨k+1,by omega,by go_num,fun j hj=>by
      rcases Nat.lt_succ_iff_lt_or_eq.1 hj with h | rfl
      ·exact HK.out j h
      ·rw[←HX.out,←HY.out];exact HXY.out,bel_drew HBE.out _⟩
     case measure=>simp[intOf];omega
    ·rw[decide_eq_false hxy] at hq
     have HNE:Hid (decide (a=b)=false):=by
      rw[Hid,decide_eq_false_iff_not];intro e
      apply hxy;rw[HX.out,HY.out,e]
     clear hxy
     go_wp2
     go_quiet (fail)
     go_wp2
     go_ret
     exact⟨by rw[HNE.out];rfl,bel_drew HBE.out _⟩
   ·obtain rfl:k=n:=by omega
    have HEQ:Hid (decide (a=b)=true):=by
     rw[Hid,decide_eq_true_eq]
     apply List.ext_getElem?
     intro i
     by_cases hi:i<k
     ·have:=HK.out i hi
      rw[List.getD_eq_getElem?_getD,List.getD_eq_getElem?_getD,List.getElem?_eq_getElem (by rw[HA.out];exact hi),List.getElem?_eq_getElem (by rw[HB.out];exact hi)] at this
      rw[List.getElem?_eq_getElem (by rw[HA.out];exact hi),List.getElem?_eq_getElem (by rw[HB.out];exact hi)]
      simpa using this
     ·rw[List.getElem?_eq_none (by rw[HA.out];omega),List.getElem?_eq_none (by rw[HB.out];omega)]
    go_wp2
    go_ret
    exact⟨by rw[HEQ.out];rfl,HBE.out⟩
 ·have hnm':((n:Int)==(m:Int))=false:=by simp;omega
  have HE:Hid (decide (a=b)=false):=by
   rw[Hid,decide_eq_false_iff_not];rintro rfl;omega
  clear ha hb hlf hlg
  go_enter Tryz.func121,Tryz.ntmps121
  go_wp2
  go_ret
  exact⟨by rw[HE.out];rfl,Below.refl _ _⟩
theorem six_two (w:World) (xa xb xt:Int) (xp:ByteArray) (xc:Int) (xv:Value) (ya yb yt:Int) (yp:ByteArray) (yc:Int) (yv:Value) (w2:World) (hb:Below ((w.alloc (.cells #[.int .i64 xa,.int .i64 xb,.int .i64 xt,.string xp,.int .i64 xc,xv] 75)).alloc (.cells #[.int .i64 ya,.int .i64 yb,.int .i64 yt,.string yp,.int .i64 yc,yv] 75)).heap.size ((w.alloc (.cells #[.int .i64 xa,.int .i64 xb,.int .i64 xt,.string xp,.int .i64 xc,xv] 75)).alloc (.cells #[.int .i64 ya,.int .i64 yb,.int .i64 yt,.string yp,.int .i64 yc,yv] 75)) w2):
  Six w2 w.heap.size xa xb xt xp xc xv∧Six w2 (w.heap.size+1) ya yb yt yp yc yv:=by
 constructor
 ·have h1:=six_new w xa xb xt xp xc xv 75
  exact(h1.below ((Below.refl _ _).alloc (Nat.le_refl _) _)).below hb
 ·have h1:=six_new (w.alloc (.cells #[.int .i64 xa,.int .i64 xb,.int .i64 xt,.string xp,.int .i64 xc,xv] 75)) ya yb yt yp yc yv 75
  rw[show(w.alloc (.cells #[.int .i64 xa,.int .i64 xb,.int .i64 xt,.string xp,.int .i64 xc,xv] 75)).heap.size=w.heap.size+1 by simp] at h1
  exact h1.below hb
theorem same_op (xa xb xt:Int) (xp:ByteArray) (xc:Int) (xv:Value) (xs:List Dt) (ya yb yt:Int) (yp:ByteArray) (yc:Int) (yv:Value) (ys:List Dt) (w:World) (h1:DtsAt w xv xs) (h2:DtsAt w yv ys) (hn:xs.length≤1048576):
  Calls Tryz.prog 78 #[.agg #[.int .i64 xa,.int .i64 xb,.int .i64 xt,.string xp,.int .i64 xc,xv],.agg #[.int .i64 ya,.int .i64 yb,.int .i64 yt,.string yp,.int .i64 yc,yv]] w fun e w'=>
   e=.returned (.bool (decide ((((xa,xb),xt,xp,xc,xs):Ox)=((ya,yb),yt,yp,yc,ys))))∧Below w.heap.size w w':=by
 have HB0:Hid (Below w.heap.size w ((w.alloc (.cells #[.int .i64 xa,.int .i64 xb,.int .i64 xt,.string xp,.int .i64 xc,xv] 75)).alloc (.cells #[.int .i64 ya,.int .i64 yb,.int .i64 yt,.string yp,.int .i64 yc,yv] 75))):=((Below.refl _ w).alloc (Nat.le_refl _) _).alloc (by simp) _
 have C:=dots_any xv yv xs ys ((w.alloc (.cells #[.int .i64 xa,.int .i64 xb,.int .i64 xt,.string xp,.int .i64 xc,xv] 75)).alloc (.cells #[.int .i64 ya,.int .i64 yb,.int .i64 yt,.string yp,.int .i64 yc,yv] 75)) (h1.below HB0.out) (h2.below HB0.out) hn
 obtain⟨px,cx,rfl,_⟩:=h1
 obtain⟨py,cy,rfl,_⟩:=h2
 obtain⟨nx,hnx⟩:∃nx,nx=xs.length:=⟨_,rfl⟩
 obtain⟨ny,hny⟩:∃ny,ny=ys.length:=⟨_,rfl⟩
 rw[←hnx,←hny] at C
 rw[←hnx,←hny]
 have HS:Hid (∀w2,Below ((w.alloc (.cells #[.int .i64 xa,.int .i64 xb,.int .i64 xt,.string xp,.int .i64 xc,(.slice px nx cx)] 75)).alloc (.cells #[.int .i64 ya,.int .i64 yb,.int .i64 yt,.string yp,.int .i64 yc,(.slice py ny cy)] 75)).heap.size ((w.alloc (.cells #[.int .i64 xa,.int .i64 xb,.int .i64 xt,.string xp,.int .i64 xc,(.slice px nx cx)] 75)).alloc (.cells #[.int .i64 ya,.int .i64 yb,.int .i64 yt,.string yp,.int .i64 yc,(.slice py ny cy)] 75)) w2→Six w2 w.heap.size xa xb xt xp xc (.slice px nx cx)∧Six w2 (w.heap.size+1) ya yb yt yp yc (.slice py ny cy)):=fun w2 hb=>six_two w _ _ _ _ _ _ _ _ _ _ _ _ w2 hb
 have HK:Hid (∀w2,Below ((w.alloc (.cells #[.int .i64 xa,.int .i64 xb,.int .i64 xt,.string xp,.int .i64 xc,(.slice px nx cx)] 75)).alloc (.cells #[.int .i64 ya,.int .i64 yb,.int .i64 yt,.string yp,.int .i64 yc,(.slice py ny cy)] 75)).heap.size ((w.alloc (.cells #[.int .i64 xa,.int .i64 xb,.int .i64 xt,.string xp,.int .i64 xc,(.slice px nx cx)] 75)).alloc (.cells #[.int .i64 ya,.int .i64 yb,.int .i64 yt,.string yp,.int .i64 yc,(.slice py ny cy)] 75)) w2→Below w.heap.size w w2):=fun w2 hb=>bel (((Below.refl _ w).alloc (Nat.le_refl _) _).alloc (by simp) _) hb
 have hq:∀w,(binOp .eql 72 (.agg #[.int .i64 xa,.int .i64 xb]) (.agg #[.int .i64 ya,.int .i64 yb])).run Tryz.prog w=.ok (.bool (decide (((xa,xb):Dt)=(ya,yb)))) w:=fun w=>eql_dot xa ya xb yb w
 have hg:Tryz.prog.eqGuardType Tryz.prog.depth 72=false:=by kernel_rfl
 clear hnx hny hn HB0
 by_cases c5:xs=ys
 case neg=>
  rw[decide_eq_false c5] at C
  have HE:Hid (decide ((((xa,xb),xt,xp,xc,xs):Ox)=((ya,yb),yt,yp,yc,ys))=false):=by
   rw[Hid,decide_eq_false_iff_not];intro e;exact c5 (congrArg (fun z:Ox=>z.2.2.2.2) e)
  clear c5
  go_enter Tryz.func78,Tryz.ntmps78
  go_wp2_with fail
  refine C.mono ?_
  rintro e w2 ⟨rfl,hb2⟩
  obtain⟨⟨d0,d1,d2,d3,d4,d5⟩,⟨e0,e1,e2,e3,e4,e5⟩⟩:=HS.out w2 hb2
  have K2:=z9 (HK.out w2 hb2)
  clear hb2 C
  go_wp2_with fail
  go_ret
  exact⟨by rw[HE.out];rfl,K2.out⟩
 rw[decide_eq_true c5] at C
 by_cases c1:((xa,xb):Dt)=(ya,yb)
 case neg=>
  rw[decide_eq_false c1] at hq
  have HE:Hid (decide ((((xa,xb),xt,xp,xc,xs):Ox)=((ya,yb),yt,yp,yc,ys))=false):=by
   rw[Hid,decide_eq_false_iff_not];intro e;exact c1 (congrArg (fun z:Ox=>z.1) e)
  clear c1 c5
  go_enter Tryz.func78,Tryz.ntmps78
  go_wp2_with fail
  refine C.mono ?_
  rintro e w2 ⟨rfl,hb2⟩
  obtain⟨⟨d0,d1,d2,d3,d4,d5⟩,⟨e0,e1,e2,e3,e4,e5⟩⟩:=HS.out w2 hb2
  have K2:=z9 (HK.out w2 hb2)
  clear hb2 C
  go_wp2_with fail
  go_ret
  exact⟨by rw[HE.out];rfl,K2.out⟩
 rw[decide_eq_true c1] at hq
 by_cases c2:xt=yt
 case neg=>
  have b2:(xt==yt)=false:=by simpa using c2
  have HE:Hid (decide ((((xa,xb),xt,xp,xc,xs):Ox)=((ya,yb),yt,yp,yc,ys))=false):=by
   rw[Hid,decide_eq_false_iff_not];intro e;exact c2 (congrArg (fun z:Ox=>z.2.1) e)
  clear c1 c2 c5
  go_enter Tryz.func78,Tryz.ntmps78
  go_wp2_with fail
  refine C.mono ?_
  rintro e w2 ⟨rfl,hb2⟩
  obtain⟨⟨d0,d1,d2,d3,d4,d5⟩,⟨e0,e1,e2,e3,e4,e5⟩⟩:=HS.out w2 hb2
  have K2:=z9 (HK.out w2 hb2)
  clear hb2 C
  go_wp2_with fail
  go_ret
  exact⟨by rw[HE.out];rfl,K2.out⟩
 have b2:(xt==yt)=true:=by simpa using c2
 by_cases c3:xp=yp
 case neg=>
  have b3:(xp.toList==yp.toList)=false:=by
   cases h9:(xp.toList==yp.toList)
   ·rfl
   ·exact absurd (mk_eq (by simpa using h9)) c3
  have HE:Hid (decide ((((xa,xb),xt,xp,xc,xs):Ox)=((ya,yb),yt,yp,yc,ys))=false):=by
   rw[Hid,decide_eq_false_iff_not];intro e;exact c3 (congrArg (fun z:Ox=>z.2.2.1) e)
  clear c1 c2 c3 c5
  go_enter Tryz.func78,Tryz.ntmps78
  go_wp2_with fail
  refine C.mono ?_
  rintro e w2 ⟨rfl,hb2⟩
  obtain⟨⟨d0,d1,d2,d3,d4,d5⟩,⟨e0,e1,e2,e3,e4,e5⟩⟩:=HS.out w2 hb2
  have K2:=z9 (HK.out w2 hb2)
  clear hb2 C
  go_wp2_with fail
  go_ret
  exact⟨by rw[HE.out];rfl,K2.out⟩
 have b3:(xp.toList==yp.toList)=true:=by rw[c3];simp
 by_cases c4:xc=yc
 case neg=>
  have b4:(xc==yc)=false:=by simpa using c4
  have HE:Hid (decide ((((xa,xb),xt,xp,xc,xs):Ox)=((ya,yb),yt,yp,yc,ys))=false):=by
   rw[Hid,decide_eq_false_iff_not];intro e;exact c4 (congrArg (fun z:Ox=>z.2.2.2.1) e)
  clear c1 c2 c3 c4 c5
  go_enter Tryz.func78,Tryz.ntmps78
  go_wp2_with fail
  refine C.mono ?_
  rintro e w2 ⟨rfl,hb2⟩
  obtain⟨⟨d0,d1,d2,d3,d4,d5⟩,⟨e0,e1,e2,e3,e4,e5⟩⟩:=HS.out w2 hb2
  have K2:=z9 (HK.out w2 hb2)
  clear hb2 C
  go_wp2_with fail
  go_ret
  exact⟨by rw[HE.out];rfl,K2.out⟩
 have b4:(xc==yc)=true:=by simpa using c4
 have HE:Hid (decide ((((xa,xb),xt,xp,xc,xs):Ox)=((ya,yb),yt,yp,yc,ys))=true):=by
  rw[Hid,decide_eq_true_eq,c1,c2,c3,c4,c5]
 clear c1 c2 c3 c4 c5
 go_enter Tryz.func78,Tryz.ntmps78
 go_wp2_with fail
 refine C.mono ?_
 rintro e w2 ⟨rfl,hb2⟩
 obtain⟨⟨d0,d1,d2,d3,d4,d5⟩,⟨e0,e1,e2,e3,e4,e5⟩⟩:=HS.out w2 hb2
 have K2:=z9 (HK.out w2 hb2)
 clear hb2 C
 go_wp2_with fail
 go_ret
 exact⟨by rw[HE.out];rfl,K2.out⟩
theorem same_ops (v u:Value) (a b:List Ox) (w:World) (h1:OpsAt w v a) (h2:OpsAt w u b) (hn:a.length≤1048576) (hm:∀x ∈ a,x.2.2.2.2.length≤1048576):
  Calls Tryz.prog 35 #[v,u] w fun e w'=>e=.returned (.bool (decide (a=b)))∧Below w.heap.size w w':=by
 obtain⟨p,c,rfl,hlf,_⟩:=h1
 obtain⟨q,d,rfl,hlg,_⟩:=h2
 obtain⟨n,ha⟩:∃n,a.length=n:=⟨_,rfl⟩
 obtain⟨m,hb⟩:∃m,b.length=m:=⟨_,rfl⟩
 rw[ha,hb]
 rw[ha] at hn
 by_cases hnm:n=m
 ·subst hnm
  have HA:=z9 ha
  have HB:=z9 hb
  have HF:=z9 hlf
  have HG:=z9 hlg
  have HM:=z9 hm
  clear ha hb hlf hlg hm
  go_enter Tryz.func35,Tryz.ntmps35
  go_wp2
  go_loopw [5] (fun i wr=>∃k:Nat,k≤n∧i=.int .i64 k∧Hid (∀j,j<k→a.getD j oz=b.getD j oz)∧Hid (Below w.heap.size w wr)) (fun i _=>n-(intOf i).toNat)
  case atStart=>exact⟨0,by omega,rfl,fun j hj=>absurd hj (by omega),Below.refl _ _⟩
  case round=>
   obtain⟨k,hk,rfl,HK,HBE⟩:=hrel
   by_cases hlt:k<n
   ·have hltz:(k:Int)<n:=by omega
    obtain⟨b1,o1,rfl,c1⟩:=HF.out.some (by intro e;have:=HA.out;rw[e] at this;simp at this;omega)
    obtain⟨b2,o2,rfl,c2⟩:=HG.out.some (by intro e;have:=HB.out;rw[e] at this;simp at this;omega)
    have hka:k<a.length:=by rw[HA.out];exact hlt
    have e1:=(c1 k hka).below HBE.out
    have e2:=(c2 k (by rw[HB.out];exact hlt)).below HBE.out
    have hxm:=HM.out _ (getO_mem hka)
    obtain⟨x,hx⟩:∃x,x=a.getD k oz:=⟨_,rfl⟩
    obtain⟨y,hy⟩:∃y,y=b.getD k oz:=⟨_,rfl⟩
    rw[←hx] at e1 hxm
    rw[←hy] at e2
    have HX:=z9 hx
    have HY:=z9 hy
    clear hx hy c1 c2 hka
    obtain⟨⟨xa,xb⟩,xt,xp,xc,xs⟩:=x
    obtain⟨⟨ya,yb⟩,yt,yp,yc,ys⟩:=y
    obtain⟨xv,⟨x0,x1,x2,x3,x4,x5⟩,hdx⟩:=e1
    obtain⟨yv,⟨y0,y1,y2,y3,y4,y5⟩,hdy⟩:=e2
    simp only at x0 x1 x2 x3 x4 x5 hdx y0 y1 y2 y3 y4 y5 hdy hxm
    have CS:Hid (∀W,Below wr.heap.size wr W→Calls Tryz.prog 78 #[.agg #[.int .i64 xa,.int .i64 xb,.int .i64 xt,.string xp,.int .i64 xc,xv],.agg #[.int .i64 ya,.int .i64 yb,.int .i64 yt,.string yp,.int .i64 yc,yv]] W fun e w'=>e=.returned (.bool (decide ((((xa,xb),xt,xp,xc,xs):Ox)=((ya,yb),yt,yp,yc,ys))))∧Below W.heap.size W w'):=fun W hW=>same_op xa xb xt xp xc xv xs ya yb yt yp yc yv ys W (hdx.below hW) (hdy.below hW) hxm
    obtain⟨px,nx,cx,rfl⟩:∃px nx cx,xv=.slice px nx cx:=by obtain⟨_,_,e9,_⟩:=hdx;exact⟨_,_,_,e9⟩
    obtain⟨py,ny,cy,rfl⟩:∃py ny cy,yv=.slice py ny cy:=by obtain⟨_,_,e9,_⟩:=hdy;exact⟨_,_,_,e9⟩
    clear hdx hdy hxm
    by_cases hxy:(((xa,xb),xt,xp,xc,xs):Ox)=((ya,yb),yt,yp,yc,ys)
    ·rw[decide_eq_true hxy] at CS
     have HXY:=z9 hxy
     clear hxy
     go_wp2_with fail
     go_region_held3 (fun W=>W.cell? ⟨b1,o1+k*6,none⟩=some (.int .i64 xa)∧W.cell? ⟨b1,o1+k*6+1,none⟩=some (.int .i64 xb)∧W.cell? ⟨b1,o1+k*6+2,none⟩=some (.int .i64 xt)∧W.cell? ⟨b1,o1+k*6+3,none⟩=some (.string xp)∧W.cell? ⟨b1,o1+k*6+4,none⟩=some (.int .i64 xc)∧W.cell? ⟨b1,o1+k*6+5,none⟩=some ((.slice px nx cx))∧W.cell? ⟨b2,o2+k*6,none⟩=some (.int .i64 ya)∧W.cell? ⟨b2,o2+k*6+1,none⟩=some (.int .i64 yb)∧W.cell? ⟨b2,o2+k*6+2,none⟩=some (.int .i64 yt)∧W.cell? ⟨b2,o2+k*6+3,none⟩=some (.string yp)∧W.cell? ⟨b2,o2+k*6+4,none⟩=some (.int .i64 yc)∧W.cell? ⟨b2,o2+k*6+5,none⟩=some ((.slice py ny cy))) (first | (go_keep;done) | (refine⟨keep_cell hb7 ?_,keep_cell hb7 ?_,keep_cell hb7 ?_,keep_cell hb7 ?_,keep_cell hb7 ?_,keep_cell hb7 ?_,keep_cell hb7 ?_,keep_cell hb7 ?_,keep_cell hb7 ?_,keep_cell hb7 ?_,keep_cell hb7 ?_,keep_cell hb7 ?_⟩<;>(go_split_ands;assumption))) (first
      | (go_at_call 78;refine(CS.out _ ((Below.refl _ wr).drew)).mono ?_;rintro e w7 ⟨rfl,hb7⟩;have HB7:=z9 (bel HBE.out.drew hb7)))
     all_goals
      go_wp2_with fail
      go_roundw
      case rel=>exact⟨k+1,by omega,by go_num,fun j hj=>by
       rcases Nat.lt_succ_iff_lt_or_eq.1 hj with h | rfl
       ·exact HK.out j h
       ·rw[←HX.out,←HY.out];exact HXY.out,HB7⟩
      case measure=>simp[intOf];omega
    ·rw[decide_eq_false hxy] at CS
     have HNE:Hid (decide (a=b)=false):=by
      rw[Hid,decide_eq_false_iff_not];intro e
      apply hxy;rw[HX.out,HY.out,e]
     clear hxy
     go_wp2_with fail
     go_region_held3 (fun W=>W.cell? ⟨b1,o1+k*6,none⟩=some (.int .i64 xa)∧W.cell? ⟨b1,o1+k*6+1,none⟩=some (.int .i64 xb)∧W.cell? ⟨b1,o1+k*6+2,none⟩=some (.int .i64 xt)∧W.cell? ⟨b1,o1+k*6+3,none⟩=some (.string xp)∧W.cell? ⟨b1,o1+k*6+4,none⟩=some (.int .i64 xc)∧W.cell? ⟨b1,o1+k*6+5,none⟩=some ((.slice px nx cx))∧W.cell? ⟨b2,o2+k*6,none⟩=some (.int .i64 ya)∧W.cell? ⟨b2,o2+k*6+1,none⟩=some (.int .i64 yb)∧W.cell? ⟨b2,o2+k*6+2,none⟩=some (.int .i64 yt)∧W.cell? ⟨b2,o2+k*6+3,none⟩=some (.string yp)∧W.cell? ⟨b2,o2+k*6+4,none⟩=some (.int .i64 yc)∧W.cell? ⟨b2,o2+k*6+5,none⟩=some ((.slice py ny cy))) (first | (go_keep;done) | (refine⟨keep_cell hb7 ?_,keep_cell hb7 ?_,keep_cell hb7 ?_,keep_cell hb7 ?_,keep_cell hb7 ?_,keep_cell hb7 ?_,keep_cell hb7 ?_,keep_cell hb7 ?_,keep_cell hb7 ?_,keep_cell hb7 ?_,keep_cell hb7 ?_,keep_cell hb7 ?_⟩<;>(go_split_ands;assumption))) (first
      | (go_at_call 78;refine(CS.out _ ((Below.refl _ wr).drew)).mono ?_;rintro e w7 ⟨rfl,hb7⟩;have HB7:=z9 (bel HBE.out.drew hb7)))
     all_goals
      go_wp2_with fail
      go_ret
      exact⟨by rw[HNE.out];rfl,HB7.out⟩
   ·obtain rfl:k=n:=by omega
    have HEQ:Hid (decide (a=b)=true):=by
     rw[Hid,decide_eq_true_eq]
     apply List.ext_getElem?
     intro i
     by_cases hi:i<k
     ·have:=HK.out i hi
      rw[List.getD_eq_getElem?_getD,List.getD_eq_getElem?_getD,List.getElem?_eq_getElem (by rw[HA.out];exact hi),List.getElem?_eq_getElem (by rw[HB.out];exact hi)] at this
      rw[List.getElem?_eq_getElem (by rw[HA.out];exact hi),List.getElem?_eq_getElem (by rw[HB.out];exact hi)]
      simpa using this
     ·rw[List.getElem?_eq_none (by rw[HA.out];omega),List.getElem?_eq_none (by rw[HB.out];omega)]
    go_wp2
    go_ret
    exact⟨by rw[HEQ.out];rfl,HBE.out⟩
 ·have hnm':((n:Int)==(m:Int))=false:=by simp;omega
  have HE:Hid (decide (a=b)=false):=by
   rw[Hid,decide_eq_false_iff_not];rintro rfl;omega
  clear ha hb hlf hlg
  go_enter Tryz.func35,Tryz.ntmps35
  go_wp2
  go_ret
  exact⟨by rw[HE.out];rfl,Below.refl _ _⟩
end Ol
end Go.Proofs.YtlmdchpbpgcfmaaGreatDoor
