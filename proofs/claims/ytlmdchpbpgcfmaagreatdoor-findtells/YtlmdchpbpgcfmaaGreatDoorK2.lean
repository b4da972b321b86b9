import Derived.Test.YtlmdchpbpgcfmaaGreatDoorJ2
import Derived.Test.YtlmdchpbpgcfmaaGreatDoorJ4
import Derived.Deep.RegionWith
import Derived.Deep.QuietTactic
import Derived.BigQuiet
import Derived.Test.YtlmdchpbpgcfmaaGreatDoorJ5
import Derived.Test.YtlmdchpbpgcfmaaGreatDoorJ6
set_option linter.unusedVariables false
set_option maxRecDepth 100000
set_option maxHeartbeats 8000000
/- What the reference says of a place (a seat without its letters). -/
namespace Go.Proofs.YtlmdchpbpgcfmaaGreatDoor
namespace Wp
open Go.RowKit Ka Kb La Bm
/- behind the letters: what is left of the test -/
theorem chk_let {s:ByteArray} (h12:¬12<s.size) (hall:s.toList.all Pm.isLet=true) (h2:2≤s.size):
  Pm.chk s.toList=if((s[s.size-1]'(by omega)).toNat:Int)<98 then 2 else if 105<((s[s.size-1]'(by omega)).toNat:Int) then 2 else if(((s[s.size-2]'(by omega)).toNat:Int)==97)=true then 2 else 0:=by
 have hl:=len_eq s
 have h1:=last_eq s (by omega)
 have hc:=last2_eq s h2
 unfold Pm.chk
 rw[hl,if_neg h12,if_neg (by omega),hall,hc]
 have hw:Pm.isWho (Pm.whoOf s.toList)=(decide (98≤((s[s.size-1]'(by omega)).toNat:Int))&&decide (((s[s.size-1]'(by omega)).toNat:Int)≤105)):=by
  unfold Pm.isWho Pm.whoOf
  rw[h1]
  rw[Bool.eq_iff_iff]
  simp
  omega
 rw[hw]
 generalize ((s[s.size-1]'(by omega)).toNat:Int)=x
 generalize (((s[s.size-2]'(by omega)).toNat:Int)==97)=y
 by_cases hx1:x<98
 ·rw[if_pos hx1,decide_eq_false (by omega)];cases y<;>simp
 ·rw[if_neg hx1,decide_eq_true (by omega)]
  by_cases hx2:105<x
  ·rw[if_pos hx2,decide_eq_false (by omega)];cases y<;>simp
  ·rw[if_neg hx2,decide_eq_true (by omega)];cases y<;>simp
theorem place_ref (s:ByteArray) (w:World) (hs:s.size≤maxLen):
  Calls Tryz.prog 103 #[.string s] w fun e w'=>e=.returned (.int .i64 (Pm.chk s.toList))∧w'=w:=by
 have hl:=len_eq s
 have hm:=hs
 unfold maxLen at hm
 by_cases h12:12<s.size
 ·have H:Hid (Pm.chk s.toList=4):=by unfold Hid Pm.chk;rw[hl,if_pos h12]
  clear hl
  go_enter Tryz.func103,Tryz.ntmps103
  go_wp2
  go_ret
  exact⟨ret_int H.out.symm,rfl⟩
 ·have HB:Hid (s.toList.all Pm.isLet=false→Pm.chk s.toList=2):=by
   intro h3;unfold Pm.chk;rw[hl,if_neg h12,h3];simp
  have HL:Hid (s.size<2→Pm.chk s.toList=2):=by
   intro h3;unfold Pm.chk;rw[hl,if_neg h12,if_pos h3]
  clear hl
  go_enter Tryz.func103,Tryz.ntmps103
  go_wp2
  go_loop [4] (fun i=>∃k:Nat,k≤s.size∧i=.int .i64 k∧Hid ((s.toList.take k).all Pm.isLet=true)) (fun i=>s.size-(intOf i).toNat)
  case atStart=>exact⟨0,Nat.zero_le _,rfl,by unfold Hid;simp⟩
  case round=>
   obtain⟨k,hk,rfl,HA⟩:=hrel
   by_cases hlt:k<s.size
   ·have hb:s[k].toNat<256:=UInt8.toNat_lt _
    have HA1:Hid ((s.toList.take (k+1)).all Pm.isLet=Pm.isLet s[k]):=by
     unfold Hid;rw[take_snoc s k hlt,List.all_append,HA.out];simp
    have HA2:Hid (∀c,s.toList.all c=((s.toList.take (k+1)).all c&&(s.toList.drop (k+1)).all c)):=by
     intro c;rw[←List.all_append,List.take_append_drop]
    have HLt:Hid (Pm.isLet s[k]=(!(decide ((s[k].toNat:Int)<97)||decide (122<(s[k].toNat:Int))))):=isLet_iff _
    by_cases h1:(s[k].toNat:Int)<97
    ·have H:=z9 (HB.out (by rw[HA2.out,HA1.out,HLt.out,decide_eq_true h1];rfl))
     go_wp2
     go_ret
     exact⟨ret_int H.out.symm,rfl⟩
    ·by_cases h2:122<(s[k].toNat:Int)
     ·have H:=z9 (HB.out (by rw[HA2.out,HA1.out,HLt.out,decide_eq_true h2,Bool.or_true];rfl))
      go_wp2
      go_ret
      exact⟨ret_int H.out.symm,rfl⟩
     ·go_wp2
      go_round
      case rel=>exact⟨k+1,by omega,by go_num,by unfold Hid;rw[HA1.out,HLt.out,decide_eq_false h1,decide_eq_false h2];rfl⟩
      case measure=>simp[intOf];omega
   ·have HAll:Hid (s.toList.all Pm.isLet=true):=by
     have:=HA.out
     unfold Hid;rwa [List.take_of_length_le (by rw[len_eq];omega)] at this
    by_cases h2:s.size<2
    ·have H:=z9 (HL.out h2)
     go_wp2
     go_ret
     exact⟨ret_int H.out.symm,rfl⟩
    ·have hq1:s.size-1<s.size:=by omega
     have hq2:s.size-2<s.size:=by omega
     have HC:=chk_let h12 HAll.out (by omega:2≤s.size)
     have HC':=z9 HC
     clear HC
     by_cases h3:((s[s.size-1]'hq1).toNat:Int)<98
     ·have H:Hid (Pm.chk s.toList=2):=by unfold Hid;rw[HC'.out,if_pos h3]
      go_wp2
      go_ret
      exact⟨ret_int H.out.symm,rfl⟩
     ·by_cases h4:105<((s[s.size-1]'hq1).toNat:Int)
      ·have H:Hid (Pm.chk s.toList=2):=by unfold Hid;rw[HC'.out,if_neg h3,if_pos h4]
       go_wp2
       go_ret
       exact⟨ret_int H.out.symm,rfl⟩
      ·cases h5:(((s[s.size-2]'hq2).toNat:Int)==97)
       ·have H:Hid (Pm.chk s.toList=0):=by unfold Hid;rw[HC'.out,if_neg h3,if_neg h4,h5];rfl
        go_wp2
        go_ret
        exact⟨ret_int H.out.symm,rfl⟩
       ·have H:Hid (Pm.chk s.toList=2):=by unfold Hid;rw[HC'.out,if_neg h3,if_neg h4,h5];rfl
        go_wp2
        go_ret
        exact⟨ret_int H.out.symm,rfl⟩
end Wp
end Go.Proofs.YtlmdchpbpgcfmaaGreatDoor
/- What the reference says of two dots, of two marks, of one. -/
namespace Go.Proofs.YtlmdchpbpgcfmaaGreatDoor
namespace Wa
open Go.ChangeShapes Go.WideShapes Go.ChangeAt Go.RowKit Cm Ka Kb Na Wp
open La (bel bel_drew errV_zero errV_ne own_ge own_grow own_below)
theorem less_ref (a1 a2 b1 b2:Int) (w:World):
  Calls Tryz.prog 145 #[.agg #[.int .i64 a1,.int .i64 a2],.agg #[.int .i64 b1,.int .i64 b2]] w fun e w'=>e=.returned (.bool (dlt (a1,a2) (b1,b2)))∧Below w.heap.size w w':=by
 have HB:Hid (∀O1 O2,Below w.heap.size w ((w.alloc O1).alloc O2)):=fun O1 O2=>((Below.refl _ w).alloc (Nat.le_refl _) _).alloc (by simp) _
 have HD:Hid (dlt (a1,a2) (b1,b2)=(decide (a1<b1)||(decide (a1=b1)&&decide (a2<b2)))):=rfl
 by_cases h1:a1<b1
 ·rw[HD.out,decide_eq_true h1]
  clear HD
  go_enter Tryz.func145,Tryz.ntmps145
  go_wp2
  go_ret
  exact⟨rfl,HB.out _ _⟩
 ·by_cases h2:a1=b1
  ·subst h2
   by_cases h3:a2<b2
   ·rw[HD.out,decide_eq_false h1,decide_eq_true rfl,decide_eq_true h3]
    clear HD
    go_enter Tryz.func145,Tryz.ntmps145
    go_wp2
    go_ret
    exact⟨by first | rfl | (refine ret_bool ?_;simp;omega),HB.out _ _⟩
   ·rw[HD.out,decide_eq_false h1,decide_eq_true rfl,decide_eq_false h3]
    clear HD
    go_enter Tryz.func145,Tryz.ntmps145
    go_wp2
    go_ret
    exact⟨by first | rfl | (refine ret_bool ?_;simp;omega),HB.out _ _⟩
  ·rw[HD.out,decide_eq_false h1,decide_eq_false h2]
   have h2b:(a1==b1)=false:=by simpa using h2
   clear HD
   go_enter Tryz.func145,Tryz.ntmps145
   go_wp2
   go_ret
   exact⟨rfl,HB.out _ _⟩
theorem before_ref (pa:ByteArray) (a1 a2:Int) (pb:ByteArray) (b1 b2:Int) (w:World):
  Calls Tryz.prog 109 #[.agg #[.string pa,.int .i64 a1,.int .i64 a2],.agg #[.string pb,.int .i64 b1,.int .i64 b2]] w fun e w'=>e=.returned (.bool (mlt (pa,(a1,a2)) (pb,(b1,b2))))∧Below w.heap.size w w':=by
 have HB:Hid (∀O1 O2,Below w.heap.size w ((w.alloc O1).alloc O2)):=fun O1 O2=>((Below.refl _ w).alloc (Nat.le_refl _) _).alloc (by simp) _
 by_cases h:pa=pb
 ·subst h
  have HM:Hid (mlt (pa,(a1,a2)) (pa,(b1,b2))=dlt (a1,a2) (b1,b2)):=by unfold Hid mlt;simp[Bm.less_irrefl]
  rw[HM.out]
  obtain⟨t,ht⟩:∃t,t=dlt (a1,a2) (b1,b2):=⟨_,rfl⟩
  have C:=fun W=>less_ref a1 a2 b1 b2 W
  rw[←ht] at C ⊢
  clear HM ht
  go_enter Tryz.func109,Tryz.ntmps109
  go_wp2_with fail
  refine(C _).mono ?_
  rintro e w2 ⟨rfl,hb2⟩
  have HB2:Hid (Below w.heap.size w w2):=bel (HB.out _ _) hb2
  clear hb2 C
  go_wp2_with fail
  go_ret
  exact⟨rfl,HB2.out⟩
 ·have hne:¬pa.toList=pb.toList:=fun e=>h (Bm.bytes_inj e)
  have hnb:(pa.toList==pb.toList)=false:=by simpa using hne
  have HM:Hid (mlt (pa,(a1,a2)) (pb,(b1,b2))=Op.bytesLess pa.toList pb.toList):=by unfold Hid mlt;simp[h]
  rw[HM.out]
  clear HM
  go_enter Tryz.func109,Tryz.ntmps109
  go_wp2_with fail
  go_ret
  exact⟨rfl,HB.out _ _⟩
end Wa
end Go.Proofs.YtlmdchpbpgcfmaaGreatDoor
/- What the reference says of marks: Marks. -/
namespace Go.Proofs.YtlmdchpbpgcfmaaGreatDoor
namespace Wb
open Go.ChangeShapes Go.WideShapes Go.ChangeAt Go.RowKit Cm Ka Kb Na Nb Nc Nd Wp Wa
open La (bel bel_drew errV_zero errV_ne own_ge own_grow own_below)
end Wb
end Go.Proofs.YtlmdchpbpgcfmaaGreatDoor
/- What the reference says of dots: Dots. -/
namespace Go.Proofs.YtlmdchpbpgcfmaaGreatDoor
namespace Wc
open Go.ChangeShapes Go.WideShapes Go.ChangeAt Go.RowKit Cm Ka Kb Na Nb Nc Nd Nj Wp Wa Wb
open La (bel bel_drew errV_zero errV_ne own_ge own_grow own_below)
theorem stands:True:=trivial
end Wc
end Go.Proofs.YtlmdchpbpgcfmaaGreatDoor
/- What the reference says of marks with one more: With. -/
namespace Go.Proofs.YtlmdchpbpgcfmaaGreatDoor
namespace Wd
open Go.ChangeShapes Go.WideShapes Go.ChangeAt Go.RowKit Cm Ka Kb Na Nb Nc Nd Nse Nf Ng Nj Nk Np Wp Wa Wb Wc
open La (bel bel_drew errV_zero errV_ne own_ge own_grow own_below)
theorem mark_new (w:World) (x:Mk) (t:TypeId):∀j u,(flat [x])[j]? =some u→(w.alloc (.cells #[.string x.1,.int .i64 x.2.1,.int .i64 x.2.2] t)).cell? ((⟨w.heap.size,0,none⟩:Addr).add j)=some u:=by
 intro j u hu
 have h2:(w.alloc (.cells #[.string x.1,.int .i64 x.2.1,.int .i64 x.2.2] t)).heap[w.heap.size]? =some (.cells #[.string x.1,.int .i64 x.2.1,.int .i64 x.2.2] t):=heap_alloc_new w _
 have e:flat [x]=[.string x.1,.int .i64 x.2.1,.int .i64 x.2.2]:=rfl
 rw[e] at hu
 rw[Addr.add_lit,Nat.zero_add]
 simp only[World.cell?,h2]
 simpa using hu
theorem alloc_le (w:World) (o:Obj):w.heap.size≤(w.alloc o).heap.size:=by simp
theorem own_app {w:World} {base:Nat} {t:TypeId} {v:Value} {n m:Nat} {a b:List Mk} (hn:a.length=n) (hm:b.length=m) (h:w.ownsRow base t 3 v (n+m) (flat a++flat b)):w.ownsRow base t 3 v (a++b).length (flat (a++b)):=by
 rw[List.length_append,flat_append,hn,hm];exact h
theorem ins_at {l:List Mk} {m:Mk} (h:there l m=false):ins mlt l m=l.take (pos mlt l m)++m::l.drop (pos mlt l m):=by
 unfold ins
 rw[if_neg]
 intro h2
 rw[there_iff.2 h2] at h;cases h
def withL (l:List Mk) (m:Mk):List Mk:=if withM l m=0 then ins mlt l m else[]
theorem with_some (b o n c:Nat) (l:List Mk) (sp:ByteArray) (p1 p2:Int) (w:World) (hl:l.length=n) (hcs:∀j,j<l.length→MAt w b o j (l.getD j none1)) (hn0:0<n) (hn:n≤40) (hnc:n≤c) (hcm:c≤maxLen) (hr:Rise mlt l):
  Calls Tryz.prog 65 #[.slice (some ⟨b,o,none⟩) n c,.agg #[.string sp,.int .i64 p1,.int .i64 p2]] w fun e w'=>∃v',e=.returned (.tuple #[v',.int .i64 (withM l (sp,(p1,p2)))])∧(MksAt w' v' (withL l (sp,(p1,p2)))∧(v'=.slice (some ⟨b,o,none⟩) n c∨La.Lies w.heap.size v'))∧Below w.heap.size w w':=by
 obtain⟨i0,hi0,hz0,hz1,hz2⟩:=info_parts infoMark
 have HNC:Hid (∀wr,Below (w.alloc (.cells #[.string sp,.int .i64 p1,.int .i64 p2] 96)).heap.size (w.alloc (.cells #[.string sp,.int .i64 p1,.int .i64 p2] 96)) wr→wr.cell? ⟨w.heap.size,0,none⟩=some (.string sp)∧wr.cell? ⟨w.heap.size,1,none⟩=some (.int .i64 p1)∧wr.cell? ⟨w.heap.size,2,none⟩=some (.int .i64 p2)):=fun wr hb=>new_cell (x:=(sp,(p1,p2))) hb
 have HB0:Hid (Below w.heap.size w (w.alloc (.cells #[.string sp,.int .i64 p1,.int .i64 p2] 96))):=(Below.refl _ w).alloc (Nat.le_refl _) _
 have HL:=z9 hl
 have HCS:=z9 hcs
 have HR:=z9 hr
 have HCM:=z9 hcm
 have hcm2:c≤9223372036854775807:=by unfold maxLen at hcm;omega
 clear hl hcs hr hcm
 go_enter Tryz.func65,Tryz.ntmps65
 go_wp2
 go_loopw [6] (fun vi wr=>∃(k:Nat),k≤n∧vi=.int .i64 k∧Hid (∀j,j<k→mlt (l.getD j none1) (sp,(p1,p2))=true)∧Hid (Below w.heap.size w wr)∧Hid (wr.cell? ⟨w.heap.size,0,none⟩=some (.string sp)∧wr.cell? ⟨w.heap.size,1,none⟩=some (.int .i64 p1)∧wr.cell? ⟨w.heap.size,2,none⟩=some (.int .i64 p2))) (fun vi _=>n-(intOf vi).toNat)
 case atStart=>exact⟨0,by omega,rfl,fun j hj=>absurd hj (by omega),HB0,HNC.out _ (Below.refl _ _)⟩
 case round=>
  clear HNC HB0
  obtain⟨k,hk,rfl,H1,KB,HX0⟩:=hrel
  obtain⟨d0,d1,d2⟩:=HX0.out
  by_cases hlt:k<n
  ·have hltz:(k:Int)<n:=by omega
   have hkl:k<l.length:=by rw[HL.out];exact hlt
   have ha:=(HCS.out k hkl).below KB.out (HCS.out k hkl).lt
   obtain⟨x,hx⟩:∃x,x=l.getD k none1:=⟨_,rfl⟩
   rw[←hx] at ha
   have HX:=z9 hx
   obtain⟨sx,x1,x2⟩:=x
   obtain⟨a1,a2,a3⟩:=ha
   simp only at a1 a2 a3
   clear hx
   have C:=fun W=>before_ref sx x1 x2 sp p1 p2 W
   cases hq:mlt (sx,(x1,x2)) (sp,(p1,p2))
   ·rw[hq] at C
    have HP:Hid (pos mlt l (sp,(p1,p2))=k):=by
     refine pos_eq HR.out (by omega) H1.out (fun j h1 h2=> ?_)
     cases h8:mlt (l.getD j none1) (sp,(p1,p2))
     ·rfl
     ·rcases Nat.lt_or_eq_of_le h1 with h | rfl
      ·have h9:=mlt_strict.2.1 _ _ _ (rise_get HR.out h h2) h8
       rw[←HX.out,hq] at h9;cases h9
      ·rw[←HX.out,hq] at h8;cases h8
    have HTH:Hid (there l (sp,(p1,p2))=decide (((sx,(x1,x2)):Mk)=(sp,(p1,p2)))):=by
     unfold Hid;rw[there_pos HR.out,HP.out,decide_eq_true hkl,Bool.true_and,HX.out]
    clear hq
    go_wp2_with fail
    go_region_held3 (fun W=>W.cell? ⟨b,o+k*3,none⟩=some (.string sx)∧W.cell? ⟨b,o+k*3+1,none⟩=some (.int .i64 x1)∧W.cell? ⟨b,o+k*3+2,none⟩=some (.int .i64 x2)∧W.cell? ⟨w.heap.size,0,none⟩=some (.string sp)∧W.cell? ⟨w.heap.size,1,none⟩=some (.int .i64 p1)∧W.cell? ⟨w.heap.size,2,none⟩=some (.int .i64 p2)) (first | (go_keep;done) | (refine⟨keep_cell hb7 ?_,keep_cell hb7 ?_,keep_cell hb7 ?_,keep_cell hb7 ?_,keep_cell hb7 ?_,keep_cell hb7 ?_⟩<;>(go_split_ands;assumption))) (first
     | (go_at_call 109;refine(C _).mono ?_;rintro e w7 ⟨rfl,hb7⟩;have HB7:=z9 (bel KB.out.drew hb7);have HC7:Hid (Below wr.heap.size wr w7):=bel (Below.refl _ wr).drew hb7))
    all_goals
     have KB2:=z9 HB7
     have b1:=keep_cell HC7.out a1
     have b2:=keep_cell HC7.out a2
     have b3:=keep_cell HC7.out a3
     have e0:=keep_cell HC7.out d0
     have e1:=keep_cell HC7.out d1
     have e2:=keep_cell HC7.out d2
     clear a1 a2 a3 d0 d1 d2 KB HB7 HC7
     have d0:=e0
     have d1:=e1
     have d2:=e2
     have KB:=KB2
     clear e0 e1 e2 KB2
     have hqq:∀w,(binOp .eql 96 (.agg #[.string sx,.int .i64 x1,.int .i64 x2]) (.agg #[.string sp,.int .i64 p1,.int .i64 p2])).run Tryz.prog w=.ok (.bool (decide (((sx,(x1,x2)):Mk)=(sp,(p1,p2))))) w:=fun w=>eql_mark sx sp x1 p1 x2 p2 w
     have hgg:Tryz.prog.eqGuardType Tryz.prog.depth 96=false:=by kernel_rfl
     by_cases hxy:((sx,(x1,x2)):Mk)=(sp,(p1,p2))
     ·rw[decide_eq_true hxy] at hqq HTH
      have HWM:Hid (withM l (sp,(p1,p2))=0):=by unfold Hid withM;rw[if_pos HTH.out]
      have HWL:Hid (withL l (sp,(p1,p2))=l):=by unfold Hid withL;rw[if_pos HWM.out];exact ins_there (there_iff.1 HTH.out)
      have HM:Hid (∀W,Below w.heap.size w W→MksAt W (.slice (some ⟨b,o,none⟩) n c) l):=fun W hb=>⟨some ⟨b,o,none⟩,c,by rw[HL.out],Or.inr ⟨b,o,rfl,fun j hj=>(HCS.out j hj).below hb (HCS.out j hj).lt⟩,by rw[HL.out];exact hnc,HCM.out,fun h=>by cases h⟩
      clear hxy
      go_wp2_with fail
      go_quiet (fail)
      generalize hwq:World.drewN _ _=wq
      have KQ:Hid (Below w.heap.size w wq):=by rw[←hwq];exact bel_drew KB.out _
      clear hwq
      go_wp2_with fail
      go_ret2
      exact⟨_,by rw[HWM.out];rfl,by rw[HWL.out];exact⟨HM.out _ KQ.out,Or.inl rfl⟩,KQ.out⟩
     ·rw[decide_eq_false hxy] at hqq HTH
      clear hxy
      by_cases h40:40≤n
      ·have HWM:Hid (withM l (sp,(p1,p2))=4):=by unfold Hid withM;rw[if_neg (by rw[HTH.out];decide),if_pos (by rw[HL.out];exact h40)]
       have HWL:Hid (withL l (sp,(p1,p2))=[]):=by unfold Hid withL;rw[HWM.out];rfl
       have hz:(40:Int)≤n:=by omega
       go_wp2_with fail
       go_quiet (fail)
       generalize hwq:World.drewN _ _=wq
       have KQ:Hid (Below w.heap.size w wq):=by rw[←hwq];exact bel_drew KB.out _
       clear hwq
       go_wp2_with fail
       go_ret2
       exact⟨_,by rw[HWM.out];rfl,by rw[HWL.out];exact⟨MksAt.nil _,Or.inr (La.Lies.nil _)⟩,KQ.out⟩
      ·have HWM:Hid (withM l (sp,(p1,p2))=0):=by unfold Hid withM;rw[if_neg (by rw[HTH.out];decide),if_neg (by rw[HL.out];exact h40)]
       have HWL:Hid (withL l (sp,(p1,p2))=l.take k++(sp,(p1,p2))::l.drop k):=by unfold Hid withL;rw[if_pos HWM.out,ins_at HTH.out,HP.out]
       clear HTH HP
       go_wp2_with fail
       go_quiet (fail)
       generalize hwq:World.drewN _ _=wq
       have KQ:Hid (Below w.heap.size w wq):=by rw[←hwq];exact bel_drew KB.out _
       have g0:wq.cell? ⟨w.heap.size,0,none⟩=some (.string sp):=by rw[←hwq];exact d0
       have g1:wq.cell? ⟨w.heap.size,1,none⟩=some (.int .i64 p1):=by rw[←hwq];exact d1
       have g2:wq.cell? ⟨w.heap.size,2,none⟩=some (.int .i64 p2):=by rw[←hwq];exact d2
       clear hwq b1 b2 b3 d0 d1 d2 KB
       have hz:¬(40:Int)≤n:=by omega
       have hn40:n<40:=by omega
       clear h40
       have hiz:(k:Int)≤n:=by omega
       have hicz:(k:Int)≤c:=by omega
       have hck:¬c=k:=by omega
       have had:(if c=k then some (⟨b,o,none⟩:Addr) else some ⟨b,o+k*3,none⟩)=some ⟨b,o+k*3,none⟩:=if_neg hck
       have HT:Hid (∀W,Below wq.heap.size wq W→∀j u,(flat (l.take k))[j]? =some u→W.cell? ((⟨b,o,none⟩:Addr).add j)=some u):=by
        intro W hb j u hu
        have h2:∀j,j<l.length→MAt W b o j (l.getD j none1):=fun j hj=>((HCS.out j hj).below KQ.out (HCS.out j hj).lt).below hb (((HCS.out j hj).below KQ.out (HCS.out j hj).lt).lt)
        rcases take_part (i:=k) (c:=c) (by rw[HL.out];omega) h2 with⟨e,_⟩ | ⟨ad2,c2,e,hc2⟩
        ·cases e
        ·injection e with e1 e2 e3
         injection e1 with e1
         rw[e1];exact hc2 j u hu
       have HD:Hid (∀W,Below wq.heap.size wq W→∀j u,(flat (l.drop k))[j]? =some u→W.cell? ((⟨b,o+k*3,none⟩:Addr).add j)=some u):=by
        intro W hb j u hu
        have h2:∀j,j<l.length→MAt W b o j (l.getD j none1):=fun j hj=>((HCS.out j hj).below KQ.out (HCS.out j hj).lt).below hb (((HCS.out j hj).below KQ.out (HCS.out j hj).lt).lt)
        rcases drop_part HL.out (by omega) hnc had h2 with⟨e,_⟩ | ⟨ad2,c2,e,hc2⟩
        ·cases e
        ·injection e with e1 e2 e3
         injection e1 with e1
         rw[e1];exact hc2 j u hu
       have HLT:Hid ((l.take k).length=k):=by unfold Hid;rw[List.length_take,HL.out];omega
       have HLD:Hid ((l.drop k).length=n-k):=by unfold Hid;have h9:=List.length_drop (l:=l) (i:=k);rw[HL.out] at h9;omega
       have HF1:Hid ((flat (l.take k)).length=k*3):=by unfold Hid;rw[flat_length,HLT.out]
       have HF3:Hid ((flat (l.drop k)).length=(n-k)*3):=by unfold Hid;rw[flat_length,HLD.out]
       have hm1:0+k≤maxLen:=by unfold maxLen;omega
       have hm2:(0+k)*32≤140737488355328:=by omega
       have hm3:(l.take k).length+1≤maxLen:=by rw[HLT.out];unfold maxLen;omega
       have hm4:((l.take k).length+1)*32≤140737488355328:=by rw[HLT.out];omega
       have hm5:(l.take k++[(sp,(p1,p2))]).length+(n-k)≤maxLen:=by rw[List.length_append,HLT.out];unfold maxLen;simp;omega
       have hm6:((l.take k++[(sp,(p1,p2))]).length+(n-k))*32≤140737488355328:=by rw[List.length_append,HLT.out];simp;omega
       go_wp2_with (first
        | (at_builtin;refine wpList_append_own_at _ rfl (.tmp 38) (.tmp 41) 90 rfl wq.heap.size 96 i0 (.agg #[.string ⟨#[]⟩,.int .i64 0,.int .i64 0]) 3 32 Tryz.underlying90 hi0 hz0 hz1 hz2 rfl (by decide) (.slice none 0 0) 0 [] rfl (World.ownsRow_nil _ _ _ _) ⟨b,o,none⟩ k c (flat (l.take k)) rfl HF1.out (HT.out _ (Below.refl _ _)) (flat_one _) hm1 hm2 (Nat.le_refl _) ?_;intro v1 w1 hown1 hgrow1 _ hat1;have HW1:Hid (w1.ownsRow wq.heap.size 96 3 v1 (l.take k).length (flat (l.take k))):=(by have h9:=hown1;rw[Nat.zero_add,List.nil_append] at h9;rw[HLT.out];exact h9);have HB2:Hid (Below wq.heap.size wq w1):=(Below.refl _ _).grown hgrow1 (Nat.le_refl _) (fun k hk=>by cases hk);have d0:=keep_cell HB2.out g0;have d1:=keep_cell HB2.out g1;have d2:=keep_cell HB2.out g2;have HS2:Hid (wq.heap.size≤(w1.alloc (.cells #[.string sp,.int .i64 p1,.int .i64 p2] 96)).heap.size):=Nat.le_trans HB2.out.size (alloc_le _ _);clear hown1 hgrow1 hat1)
        | (at_builtin;refine wpList_append_own_at _ rfl (.tmp 43) (.tmp 45) 90 rfl wq.heap.size 96 i0 (.agg #[.string ⟨#[]⟩,.int .i64 0,.int .i64 0]) 3 32 Tryz.underlying90 hi0 hz0 hz1 hz2 rfl (by decide) v1 _ _ rfl (HW1.out.alloc _) ⟨w1.heap.size,0,none⟩ 1 1 (flat [(sp,(p1,p2))]) rfl rfl (mark_new w1 (sp,(p1,p2)) _) (flat_one _) hm3 hm4 HS2.out ?_;intro v2 w2 hown2 hgrow2 _ hat2;have HW2:=z9 (own_app rfl rfl hown2);have HB3:Hid (Below wq.heap.size wq w2):=own_grow HW1.out (HB2.out.alloc HB2.out.size _) hgrow2 HS2.out;clear hown2 hgrow2 hat2 d0 d1 d2)
        | (at_builtin;refine wpList_append_own_at _ rfl (.tmp 47) (.tmp 50) 90 rfl wq.heap.size 96 i0 (.agg #[.string ⟨#[]⟩,.int .i64 0,.int .i64 0]) 3 32 Tryz.underlying90 hi0 hz0 hz1 hz2 rfl (by decide) v2 _ _ rfl HW2.out ⟨b,o+k*3,none⟩ (n-k) (c-k) (flat (l.drop k)) rfl HF3.out (HD.out _ HB3.out) (flat_one _) hm5 hm6 HB3.out.size ?_;intro v3 w3 hown3 hgrow3 _ hat3;have HW3:=z9 (own_app rfl HLD.out hown3);have HB4:=z9 (bel KQ.out (own_grow HW2.out HB3.out hgrow3 HB3.out.size));clear hown3 hgrow3 hat3))
       go_ret2
       refine⟨_,by rw[HWM.out];rfl, ?_,HB4.out⟩
       have h9:=own_mks HW3.out
       rw[List.append_assoc] at h9
       rw[HWL.out]
       exact⟨h9,Or.inr ((La.Lies.own HW3.out).mono KQ.out.size)⟩
   ·rw[hq] at C
    have H3:Hid (∀j,j<k+1→mlt (l.getD j none1) (sp,(p1,p2))=true):=by
     intro j hj
     rcases Nat.lt_succ_iff_lt_or_eq.1 hj with h | rfl
     ·exact H1.out j h
     ·rw[←HX.out];exact hq
    clear hq
    go_wp2_with fail
    go_region_held3 (fun W=>W.cell? ⟨b,o+k*3,none⟩=some (.string sx)∧W.cell? ⟨b,o+k*3+1,none⟩=some (.int .i64 x1)∧W.cell? ⟨b,o+k*3+2,none⟩=some (.int .i64 x2)∧W.cell? ⟨w.heap.size,0,none⟩=some (.string sp)∧W.cell? ⟨w.heap.size,1,none⟩=some (.int .i64 p1)∧W.cell? ⟨w.heap.size,2,none⟩=some (.int .i64 p2)) (first | (go_keep;done) | (refine⟨keep_cell hb7 ?_,keep_cell hb7 ?_,keep_cell hb7 ?_,keep_cell hb7 ?_,keep_cell hb7 ?_,keep_cell hb7 ?_⟩<;>(go_split_ands;assumption))) (first
     | (go_at_call 109;refine(C _).mono ?_;rintro e w7 ⟨rfl,hb7⟩;have HB7:=z9 (bel KB.out.drew hb7);have HC7:Hid (Below wr.heap.size wr w7):=bel (Below.refl _ wr).drew hb7))
    all_goals
     go_wp2_with fail
     go_roundw
     case rel=>exact⟨k+1,by omega,by go_num,H3,HB7,⟨keep_cell HC7.out d0,keep_cell HC7.out d1,keep_cell HC7.out d2⟩⟩
     case measure=>simp[intOf];omega
  ·obtain rfl:k=n:=by omega
   have HP:Hid (pos mlt l (sp,(p1,p2))=k):=pos_eq HR.out (by rw[HL.out];exact Nat.le_refl _) H1.out (fun j h1 h2=>by rw[HL.out] at h2;omega)
   have HTH:Hid (there l (sp,(p1,p2))=false):=by
    unfold Hid;rw[there_pos HR.out,HP.out,decide_eq_false (by rw[HL.out];omega)];rfl
   have hkd:decide (k<k)=false:=decide_eq_false (by omega)
   by_cases h40:40≤k
   ·have HWM:Hid (withM l (sp,(p1,p2))=4):=by unfold Hid withM;rw[if_neg (by rw[HTH.out];decide),if_pos (by rw[HL.out];exact h40)]
    have HWL:Hid (withL l (sp,(p1,p2))=[]):=by unfold Hid withL;rw[HWM.out];rfl
    have hz:(40:Int)≤k:=by omega
    go_wp2_with fail
    go_quiet (fail)
    go_wp2_with fail
    go_quiet (fail)
    generalize hwq:World.drewN _ _=wq
    have KQ:Hid (Below w.heap.size w wq):=by rw[←hwq];exact bel_drew (bel_drew KB.out _) _
    clear hwq
    go_wp2_with fail
    go_ret2
    exact⟨_,by rw[HWM.out];rfl,by rw[HWL.out];exact⟨MksAt.nil _,Or.inr (La.Lies.nil _)⟩,KQ.out⟩
   ·have HWM:Hid (withM l (sp,(p1,p2))=0):=by unfold Hid withM;rw[if_neg (by rw[HTH.out];decide),if_neg (by rw[HL.out];exact h40)]
    have HWL:Hid (withL l (sp,(p1,p2))=l.take k++(sp,(p1,p2))::l.drop k):=by unfold Hid withL;rw[if_pos HWM.out,ins_at HTH.out,HP.out]
    clear HTH HP
    go_wp2_with fail
    go_quiet (fail)
    go_wp2_with fail
    go_quiet (fail)
    generalize hwq:World.drewN _ _=wq
    have KQ:Hid (Below w.heap.size w wq):=by rw[←hwq];exact bel_drew (bel_drew KB.out _) _
    have g0:wq.cell? ⟨w.heap.size,0,none⟩=some (.string sp):=by rw[←hwq];exact d0
    have g1:wq.cell? ⟨w.heap.size,1,none⟩=some (.int .i64 p1):=by rw[←hwq];exact d1
    have g2:wq.cell? ⟨w.heap.size,2,none⟩=some (.int .i64 p2):=by rw[←hwq];exact d2
    clear hwq d0 d1 d2 KB
    have hz:¬(40:Int)≤k:=by omega
    have hn40:k<40:=by omega
    clear h40
    have hiz:(k:Int)≤k:=by omega
    have hicz:(k:Int)≤c:=by omega
    obtain⟨ad,had⟩:∃ad,(if c=k then some (⟨b,o,none⟩:Addr) else some ⟨b,o+k*3,none⟩)=some ad:=by
     by_cases e:c=k
     ·exact⟨⟨b,o,none⟩,by rw[if_pos e]⟩
     ·exact⟨⟨b,o+k*3,none⟩,by rw[if_neg e]⟩
    have HT:Hid (∀W,Below wq.heap.size wq W→∀j u,(flat (l.take k))[j]? =some u→W.cell? ((⟨b,o,none⟩:Addr).add j)=some u):=by
     intro W hb j u hu
     have h2:∀j,j<l.length→MAt W b o j (l.getD j none1):=fun j hj=>((HCS.out j hj).below KQ.out (HCS.out j hj).lt).below hb (((HCS.out j hj).below KQ.out (HCS.out j hj).lt).lt)
     rcases take_part (i:=k) (c:=c) (by rw[HL.out];omega) h2 with⟨e,_⟩ | ⟨ad2,c2,e,hc2⟩
     ·cases e
     ·injection e with e1 e2 e3
      injection e1 with e1
      rw[e1];exact hc2 j u hu
    have HD:Hid (∀W,Below wq.heap.size wq W→∀j u,(flat (l.drop k))[j]? =some u→W.cell? (ad.add j)=some u):=by
     intro W hb j u hu
     have h2:∀j,j<l.length→MAt W b o j (l.getD j none1):=fun j hj=>((HCS.out j hj).below KQ.out (HCS.out j hj).lt).below hb (((HCS.out j hj).below KQ.out (HCS.out j hj).lt).lt)
     rcases drop_part HL.out (by omega) hnc had h2 with⟨e,_⟩ | ⟨ad2,c2,e,hc2⟩
     ·cases e
     ·injection e with e1 e2 e3
      injection e1 with e1
      rw[e1];exact hc2 j u hu
    have HLT:Hid ((l.take k).length=k):=by unfold Hid;rw[List.length_take,HL.out];omega
    have HLD:Hid ((l.drop k).length=0):=by unfold Hid;have h9:=List.length_drop (l:=l) (i:=k);rw[HL.out] at h9;omega
    have HF1:Hid ((flat (l.take k)).length=k*3):=by unfold Hid;rw[flat_length,HLT.out]
    have HF3:Hid ((flat (l.drop k)).length=0*3):=by unfold Hid;rw[flat_length,HLD.out]
    have hm1:0+k≤maxLen:=by unfold maxLen;omega
    have hm2:(0+k)*32≤140737488355328:=by omega
    have hm3:(l.take k).length+1≤maxLen:=by rw[HLT.out];unfold maxLen;omega
    have hm4:((l.take k).length+1)*32≤140737488355328:=by rw[HLT.out];omega
    have hm5:(l.take k++[(sp,(p1,p2))]).length+0≤maxLen:=by rw[List.length_append,HLT.out];unfold maxLen;simp;omega
    have hm6:((l.take k++[(sp,(p1,p2))]).length+0)*32≤140737488355328:=by rw[List.length_append,HLT.out];simp;omega
    go_wp2_with (first
     | (at_builtin;refine wpList_append_own_at _ rfl (.tmp 38) (.tmp 41) 90 rfl wq.heap.size 96 i0 (.agg #[.string ⟨#[]⟩,.int .i64 0,.int .i64 0]) 3 32 Tryz.underlying90 hi0 hz0 hz1 hz2 rfl (by decide) (.slice none 0 0) 0 [] rfl (World.ownsRow_nil _ _ _ _) ⟨b,o,none⟩ k c (flat (l.take k)) rfl HF1.out (HT.out _ (Below.refl _ _)) (flat_one _) hm1 hm2 (Nat.le_refl _) ?_;intro v1 w1 hown1 hgrow1 _ hat1;have HW1:Hid (w1.ownsRow wq.heap.size 96 3 v1 (l.take k).length (flat (l.take k))):=(by have h9:=hown1;rw[Nat.zero_add,List.nil_append] at h9;rw[HLT.out];exact h9);have HB2:Hid (Below wq.heap.size wq w1):=(Below.refl _ _).grown hgrow1 (Nat.le_refl _) (fun k hk=>by cases hk);have d0:=keep_cell HB2.out g0;have d1:=keep_cell HB2.out g1;have d2:=keep_cell HB2.out g2;have HS2:Hid (wq.heap.size≤(w1.alloc (.cells #[.string sp,.int .i64 p1,.int .i64 p2] 96)).heap.size):=Nat.le_trans HB2.out.size (alloc_le _ _);clear hown1 hgrow1 hat1)
     | (at_builtin;refine wpList_append_own_at _ rfl (.tmp 43) (.tmp 45) 90 rfl wq.heap.size 96 i0 (.agg #[.string ⟨#[]⟩,.int .i64 0,.int .i64 0]) 3 32 Tryz.underlying90 hi0 hz0 hz1 hz2 rfl (by decide) v1 _ _ rfl (HW1.out.alloc _) ⟨w1.heap.size,0,none⟩ 1 1 (flat [(sp,(p1,p2))]) rfl rfl (mark_new w1 (sp,(p1,p2)) _) (flat_one _) hm3 hm4 HS2.out ?_;intro v2 w2 hown2 hgrow2 _ hat2;have HW2:=z9 (own_app rfl rfl hown2);have HB3:Hid (Below wq.heap.size wq w2):=own_grow HW1.out (HB2.out.alloc HB2.out.size _) hgrow2 HS2.out;clear hown2 hgrow2 hat2 d0 d1 d2)
     | (at_builtin;refine wpList_append_own_at _ rfl (.tmp 47) (.tmp 50) 90 rfl wq.heap.size 96 i0 (.agg #[.string ⟨#[]⟩,.int .i64 0,.int .i64 0]) 3 32 Tryz.underlying90 hi0 hz0 hz1 hz2 rfl (by decide) v2 _ _ rfl HW2.out ad 0 (c-k) (flat (l.drop k)) rfl HF3.out (HD.out _ HB3.out) (flat_one _) hm5 hm6 HB3.out.size ?_;intro v3 w3 hown3 hgrow3 _ hat3;have HW3:=z9 (own_app rfl HLD.out hown3);have HB4:=z9 (bel KQ.out (own_grow HW2.out HB3.out hgrow3 HB3.out.size));clear hown3 hgrow3 hat3))
    go_ret2
    refine⟨_,by rw[HWM.out];rfl, ?_,HB4.out⟩
    have h9:=own_mks HW3.out
    rw[List.append_assoc] at h9
    rw[HWL.out]
    exact⟨h9,Or.inr ((La.Lies.own HW3.out).mono KQ.out.size)⟩
end Wd
end Go.Proofs.YtlmdchpbpgcfmaaGreatDoor
/- What the reference says of no marks with one more; With and Without at all marks. -/
namespace Go.Proofs.YtlmdchpbpgcfmaaGreatDoor
namespace We
open Go.ChangeShapes Go.WideShapes Go.ChangeAt Go.RowKit Cm Ka Kb Na Nb Nc Nd Nse Nf Ng Nj Nk Np Wp Wa Wb Wc Wd
open La (bel bel_drew errV_zero errV_ne own_ge own_grow own_below)
theorem with_none  (sp:ByteArray) (p1 p2:Int) (w:World):
  Calls Tryz.prog 65 #[.slice none 0 0,.agg #[.string sp,.int .i64 p1,.int .i64 p2]] w fun e w'=>∃v',e=.returned (.tuple #[v',.int .i64 0])∧(MksAt w' v' [(sp,(p1,p2))]∧La.Lies w.heap.size v')∧Below w.heap.size w w':=by
 obtain⟨i0,hi0,hz0,hz1,hz2⟩:=info_parts infoMark
 have HNC:Hid (∀wr,Below (w.alloc (.cells #[.string sp,.int .i64 p1,.int .i64 p2] 96)).heap.size (w.alloc (.cells #[.string sp,.int .i64 p1,.int .i64 p2] 96)) wr→wr.cell? ⟨w.heap.size,0,none⟩=some (.string sp)∧wr.cell? ⟨w.heap.size,1,none⟩=some (.int .i64 p1)∧wr.cell? ⟨w.heap.size,2,none⟩=some (.int .i64 p2)):=fun wr hb=>new_cell (x:=(sp,(p1,p2))) hb
 have HB0:Hid (Below w.heap.size w (w.alloc (.cells #[.string sp,.int .i64 p1,.int .i64 p2] 96))):=(Below.refl _ w).alloc (Nat.le_refl _) _
 go_enter Tryz.func65,Tryz.ntmps65
 go_wp2
 go_loopw [6] (fun vi wr=>vi=.int .i64 0∧Hid (Below w.heap.size w wr)∧Hid (wr.cell? ⟨w.heap.size,0,none⟩=some (.string sp)∧wr.cell? ⟨w.heap.size,1,none⟩=some (.int .i64 p1)∧wr.cell? ⟨w.heap.size,2,none⟩=some (.int .i64 p2))) (fun vi _=>0)
 case atStart=>exact⟨rfl,HB0,HNC.out _ (Below.refl _ _)⟩
 case round=>
  clear HNC HB0
  obtain⟨rfl,KB,HX0⟩:=hrel
  obtain⟨d0,d1,d2⟩:=HX0.out
  go_wp2_with fail
  go_quiet (fail)
  go_wp2_with fail
  go_quiet (fail)
  generalize hwq:World.drewN _ _=wq
  have KQ:Hid (Below w.heap.size w wq):=by rw[←hwq];exact bel_drew (bel_drew KB.out _) _
  have g0:wq.cell? ⟨w.heap.size,0,none⟩=some (.string sp):=by rw[←hwq];exact d0
  have g1:wq.cell? ⟨w.heap.size,1,none⟩=some (.int .i64 p1):=by rw[←hwq];exact d1
  have g2:wq.cell? ⟨w.heap.size,2,none⟩=some (.int .i64 p2):=by rw[←hwq];exact d2
  have HS2:Hid (wq.heap.size≤(wq.alloc (.cells #[.string sp,.int .i64 p1,.int .i64 p2] 96)).heap.size):=alloc_le _ _
  have hm3:0+1≤maxLen:=by unfold maxLen;omega
  have hm0:0+0≤maxLen:=by unfold maxLen;omega
  have hm1:1+0≤maxLen:=by unfold maxLen;omega
  clear hwq d0 d1 d2 KB
  have hap:=fun W=>run_append_owned_none (P:=Tryz.prog) (w:=W) wq.heap.size 90 90 96 i0 3 Tryz.underlying90 hi0 (.slice none 0 0) 0 [] (World.ownsRow_nil W _ _ _)
  go_wp2_with (first
   | (at_builtin;refine Lib.wpList_append_run _ rfl (.tmp 38) (.tmp 41) _ _ rfl _ _ rfl rfl _ _ (hap _) ?_)
   | (at_builtin;refine wpList_append_own_at _ rfl (.tmp 43) (.tmp 45) 90 rfl wq.heap.size 96 i0 (.agg #[.string ⟨#[]⟩,.int .i64 0,.int .i64 0]) 3 32 Tryz.underlying90 hi0 hz0 hz1 hz2 rfl (by decide) (.slice none 0 0) 0 [] rfl (World.ownsRow_nil _ _ _ _) ⟨wq.heap.size,0,none⟩ 1 1 (flat [(sp,(p1,p2))]) rfl rfl (mark_new wq (sp,(p1,p2)) _) (flat_one _) hm3 (by omega) HS2.out ?_;intro v2 w2 hown2 hgrow2 _ hat2;have HW2:=z9 hown2;have HB3:Hid (Below wq.heap.size wq w2):=((Below.refl _ wq).alloc (Nat.le_refl _) _).grown hgrow2 HS2.out (fun k hk=>by cases hk);have hap2:=run_append_owned_none (P:=Tryz.prog) (w:=w2) wq.heap.size 90 90 96 i0 3 Tryz.underlying90 hi0 v2 _ _ HW2.out;clear hown2 hgrow2 hat2)
   | (at_builtin;refine Lib.wpList_append_run _ rfl (.tmp 47) (.tmp 50) _ _ rfl _ _ rfl rfl _ _ hap2 ?_))
  go_ret2
  exact⟨_,rfl,⟨own_mks HW2.out,(La.Lies.own HW2.out).mono KQ.out.size⟩,bel KQ.out HB3.out⟩
theorem with_empty (a:Addr) (c:Nat) (sp:ByteArray) (p1 p2:Int) (w:World) (hcm:c≤maxLen):
  Calls Tryz.prog 65 #[.slice (some a) 0 c,.agg #[.string sp,.int .i64 p1,.int .i64 p2]] w fun e w'=>∃v',e=.returned (.tuple #[v',.int .i64 0])∧(MksAt w' v' [(sp,(p1,p2))]∧La.Lies w.heap.size v')∧Below w.heap.size w w':=by
 obtain⟨i0,hi0,hz0,hz1,hz2⟩:=info_parts infoMark
 have HNC:Hid (∀wr,Below (w.alloc (.cells #[.string sp,.int .i64 p1,.int .i64 p2] 96)).heap.size (w.alloc (.cells #[.string sp,.int .i64 p1,.int .i64 p2] 96)) wr→wr.cell? ⟨w.heap.size,0,none⟩=some (.string sp)∧wr.cell? ⟨w.heap.size,1,none⟩=some (.int .i64 p1)∧wr.cell? ⟨w.heap.size,2,none⟩=some (.int .i64 p2)):=fun wr hb=>new_cell (x:=(sp,(p1,p2))) hb
 have HB0:Hid (Below w.heap.size w (w.alloc (.cells #[.string sp,.int .i64 p1,.int .i64 p2] 96))):=(Below.refl _ w).alloc (Nat.le_refl _) _
 unfold maxLen at hcm
 have hcz:(0:Int)≤c:=by omega
 go_enter Tryz.func65,Tryz.ntmps65
 go_wp2
 go_loopw [6] (fun vi wr=>vi=.int .i64 0∧Hid (Below w.heap.size w wr)∧Hid (wr.cell? ⟨w.heap.size,0,none⟩=some (.string sp)∧wr.cell? ⟨w.heap.size,1,none⟩=some (.int .i64 p1)∧wr.cell? ⟨w.heap.size,2,none⟩=some (.int .i64 p2))) (fun vi _=>0)
 case atStart=>exact⟨rfl,HB0,HNC.out _ (Below.refl _ _)⟩
 case round=>
  clear HNC HB0
  obtain⟨rfl,KB,HX0⟩:=hrel
  obtain⟨d0,d1,d2⟩:=HX0.out
  go_wp2_with fail
  go_quiet (fail)
  go_wp2_with fail
  go_quiet (fail)
  generalize hwq:World.drewN _ _=wq
  have KQ:Hid (Below w.heap.size w wq):=by rw[←hwq];exact bel_drew (bel_drew KB.out _) _
  have g0:wq.cell? ⟨w.heap.size,0,none⟩=some (.string sp):=by rw[←hwq];exact d0
  have g1:wq.cell? ⟨w.heap.size,1,none⟩=some (.int .i64 p1):=by rw[←hwq];exact d1
  have g2:wq.cell? ⟨w.heap.size,2,none⟩=some (.int .i64 p2):=by rw[←hwq];exact d2
  have HS2:Hid (wq.heap.size≤(wq.alloc (.cells #[.string sp,.int .i64 p1,.int .i64 p2] 96)).heap.size):=alloc_le _ _
  have hm3:0+1≤maxLen:=by unfold maxLen;omega
  have hm0:0+0≤maxLen:=by unfold maxLen;omega
  have hm1:1+0≤maxLen:=by unfold maxLen;omega
  clear hwq d0 d1 d2 KB
  go_wp2_with (first
   | (at_builtin;refine wpList_append_own_at _ rfl (.tmp 38) (.tmp 41) 90 rfl wq.heap.size 96 i0 (.agg #[.string ⟨#[]⟩,.int .i64 0,.int .i64 0]) 3 32 Tryz.underlying90 hi0 hz0 hz1 hz2 rfl (by decide) (.slice none 0 0) 0 [] rfl (World.ownsRow_nil _ _ _ _) a 0 c [] rfl rfl (fun j u hu=>by simp at hu) (fun u hu=>by simp at hu) hm0 (by omega) (Nat.le_refl _) ?_;intro v1 w1 hown1 hgrow1 _ hat1;have HW1:=z9 hown1;have HB2:Hid (Below wq.heap.size wq w1):=(Below.refl _ _).grown hgrow1 (Nat.le_refl _) (fun k hk=>by cases hk);have d0:=keep_cell HB2.out g0;have d1:=keep_cell HB2.out g1;have d2:=keep_cell HB2.out g2;have HS3:Hid (wq.heap.size≤(w1.alloc (.cells #[.string sp,.int .i64 p1,.int .i64 p2] 96)).heap.size):=Nat.le_trans HB2.out.size (alloc_le _ _);clear hown1 hgrow1 hat1)
   | (at_builtin;refine wpList_append_own_at _ rfl (.tmp 43) (.tmp 45) 90 rfl wq.heap.size 96 i0 (.agg #[.string ⟨#[]⟩,.int .i64 0,.int .i64 0]) 3 32 Tryz.underlying90 hi0 hz0 hz1 hz2 rfl (by decide) v1 _ _ rfl (HW1.out.alloc _) ⟨w1.heap.size,0,none⟩ 1 1 (flat [(sp,(p1,p2))]) rfl rfl (mark_new w1 (sp,(p1,p2)) _) (flat_one _) hm3 (by omega) HS3.out ?_;intro v2 w2 hown2 hgrow2 _ hat2;have HW2:=z9 hown2;have HB3:Hid (Below wq.heap.size wq w2):=own_grow HW1.out (HB2.out.alloc HB2.out.size _) hgrow2 HS3.out;clear hown2 hgrow2 hat2 d0 d1 d2)
   | (at_builtin;refine wpList_append_own_at _ rfl (.tmp 47) (.tmp 50) 90 rfl wq.heap.size 96 i0 (.agg #[.string ⟨#[]⟩,.int .i64 0,.int .i64 0]) 3 32 Tryz.underlying90 hi0 hz0 hz1 hz2 rfl (by decide) v2 _ _ rfl HW2.out a 0 c [] rfl rfl (fun j u hu=>by simp at hu) (fun u hu=>by simp at hu) hm1 (by omega) HB3.out.size ?_;intro v3 w3 hown3 hgrow3 _ hat3;have HW3:Hid (w3.ownsRow wq.heap.size 96 3 v3 1 (flat [(sp,(p1,p2))])):=(by have h9:=hown3;rw[List.append_nil,Nat.add_zero] at h9;exact h9);have HB4:=z9 (bel KQ.out (own_grow HW2.out HB3.out hgrow3 HB3.out.size));clear hown3 hgrow3 hat3))
  go_ret2
  exact⟨_,rfl,⟨own_mks HW3.out,(La.Lies.own HW3.out).mono KQ.out.size⟩,HB4.out⟩
theorem with_loc (v:Value) (l:List Mk) (sp:ByteArray) (p1 p2:Int) (w:World) (h:MksAt w v l) (hr:Rise mlt l) (hn:l.length≤40):
  Calls Tryz.prog 65 #[v,.agg #[.string sp,.int .i64 p1,.int .i64 p2]] w fun e w'=>∃v',e=.returned (.tuple #[v',.int .i64 (withM l (sp,(p1,p2)))])∧(MksAt w' v' (withL l (sp,(p1,p2)))∧(v'=v∨La.Lies w.heap.size v'))∧Below w.heap.size w w':=by
 obtain⟨p,c,rfl,hlf,hc,hcm,hpc⟩:=h
 by_cases hl0:l=[]
 ·subst hl0
  have e1:withM [] (sp,(p1,p2))=0:=by unfold withM;rw[if_neg (by rw[there];simp)];rfl
  have e2:withL [] (sp,(p1,p2))=[(sp,(p1,p2))]:=by unfold withL;rw[if_pos e1,ins_at (by rw[there];simp)];rfl
  rw[e1,e2]
  cases p with
  | none=>rw[hpc rfl];exact(with_none sp p1 p2 w).mono fun e w' ⟨v',h1,h2,h3⟩=>⟨v',h1,⟨h2.1,Or.inr h2.2⟩,h3⟩
  | some a=>exact(with_empty a c sp p1 p2 w hcm).mono fun e w' ⟨v',h1,h2,h3⟩=>⟨v',h1,⟨h2.1,Or.inr h2.2⟩,h3⟩
 ·obtain⟨b,o,rfl,hcc⟩:=hlf.some hl0
  exact with_some b o _ c l sp p1 p2 w rfl hcc (by cases l with | nil=>exact absurd rfl hl0 | cons _ _=>simp) hn hc hcm hr
/- without those that were seen -/
theorem without_take {l:List Mk} {p:ByteArray} {s:List Dt} {k:Nat} {x:Mk} (hk:k<l.length) (hx:x=l.getD k none1):
  without (l.take (k+1)) p s=if gone p s x then without (l.take k) p s else without (l.take k) p s++[x]:=by
 have e:l.take (k+1)=l.take k++[x]:=by
  rw[hx,List.getD_eq_getElem?_getD,List.getElem?_eq_getElem hk,List.take_add_one,List.getElem?_eq_getElem hk];rfl
 unfold without
 rw[e,List.filter_append]
 have e2:(decide (x.1=p)&&decide (x.2 ∈ s))=gone p s x:=rfl
 cases h:gone p s x
 ·simp only[List.filter_cons,e2,h,List.filter_nil];simp
 ·simp only[List.filter_cons,e2,h,List.filter_nil];simp
theorem without_len (l:List Mk) (p:ByteArray) (s:List Dt):(without l p s).length≤l.length:=by unfold without;exact List.length_filter_le _ _
theorem without_loc (v : Value) (l : List Mk) (p : ByteArray) (vs : Value) (s : List Dt) (w : World) (hA : MksAt w v l) (hn : l.length ≤ 40) (hd : DtsAt w vs s) (hsn : s.length ≤ 1048576) :
  Calls Tryz.prog 66 #[v, .string p, vs] w fun e w' => ∃ v', e = .returned v' ∧ MksNew w.heap.size w' v' (without l p s) ∧ Below w.heap.size w w' := by
 obtain ⟨i0, hi0, hz0, hz1, hz2⟩ := info_parts infoMark
 have HIN : Hid (∀ W, Below w.heap.size w W → ∀ a b, Calls Tryz.prog 108 #[vs, .agg #[.int .i64 a, .int .i64 b]] W fun e w' => e = .returned (.bool (decide ((a, b) ∈ s))) ∧ Below W.heap.size W w') := fun W hb a b => in_any vs s a b W (hd.below hb) hsn
 obtain ⟨q, c, rfl, hlf, _⟩ := hA
 obtain ⟨qs, cs, rfl, _⟩ := hd
 obtain ⟨n, hl⟩ : ∃ n, l.length = n := ⟨_, rfl⟩
 obtain ⟨ns, hls⟩ : ∃ ns, s.length = ns := ⟨_, rfl⟩
 rw [hl] at hn
 rw [hls] at HIN
 rw [hl, hls]
 have HL := z9 hl
 have HI := z9 hlf
 clear hl hls hlf hsn
 go_enter Tryz.func66, Tryz.ntmps66
 go_wp2
 go_loopw [7, 8, 9] (fun d i _ wr => ∃ (k : Nat), k ≤ n ∧ i = .int .i64 k ∧ Hid (wr.ownsRow w.heap.size 96 3 d (without (l.take k) p s).length (flat (without (l.take k) p s))) ∧ Hid (Below w.heap.size w wr)) (fun _ i _ _ => n - (intOf i).toNat)
 case atStart => exact ⟨0, by omega, rfl, World.ownsRow_nil _ _ _ _, Below.refl _ _⟩
 case round =>
  obtain ⟨k, hk, rfl, HO, HB⟩ := hrel
  by_cases hlt : k < n
  ·have hltz : (k : Int) < n := by omega
   obtain ⟨b, o, rfl, hc⟩ := HI.out.some (by intro e; have := HL.out; rw [e] at this; simp at this; omega)
   have hkl : k < l.length := by rw [HL.out]; exact hlt
   have ha := (hc k hkl).below HB.out (hc k hkl).lt
   obtain ⟨x, hx⟩ : ∃ x, x = l.getD k none1 := ⟨_, rfl⟩
   have HT : Hid (without (l.take (k + 1)) p s = if gone p s x then without (l.take k) p s else without (l.take k) p s ++ [x]) := without_take hkl hx
   rw [← hx] at ha
   obtain ⟨sx, x1, x2⟩ := x
   obtain ⟨a1, a2, a3⟩ := ha
   simp only at a1 a2 a3
   have hdl := without_len (l.take k) p s
   rw [List.length_take] at hdl
   obtain ⟨D, hD⟩ : ∃ D, D = without (l.take k) p s := ⟨_, rfl⟩
   rw [← hD] at HO HT hdl
   have hd40 : D.length ≤ 40 := by omega
   have C := HIN.out wr HB.out x1 x2
   clear hc hx hD hdl
   by_cases hgo : gone p s (sx, (x1, x2)) = true
   ·have h2 : sx = p ∧ (x1, x2) ∈ s := by
     unfold gone at hgo; rw [Bool.and_eq_true, decide_eq_true_eq, decide_eq_true_eq] at hgo; exact hgo
    have HW2 : Hid (∀ W, Below wr.heap.size wr W → W.ownsRow w.heap.size 96 3 u7 (without (l.take (k + 1)) p s).length (flat (without (l.take (k + 1)) p s))) := by
     intro W hb; rw [HT.out, if_pos hgo]; exact own_below HO.out hb
    obtain ⟨e1, e2⟩ := h2
    rw [decide_eq_true e2] at C
    subst e1
    clear hgo e2 HT
    go_wp2_with fail
    refine C.mono ?_
    rintro e w2 ⟨rfl, hb2⟩
    have HB2 := z9 (bel HB.out hb2)
    have HW3 : Hid (w2.ownsRow w.heap.size 96 3 u7 (without (l.take (k + 1)) sx s).length (flat (without (l.take (k + 1)) sx s))) := HW2.out _ hb2
    have b1 := keep_cell hb2 a1
    clear hb2 C a1 a2 a3
    go_wp2_with fail
    go_roundw
    case rel => exact ⟨k + 1, by omega, by go_num, HW3, HB2⟩
    case measure => simp [intOf]; omega
   ·have HT2 : Hid (without (l.take (k + 1)) p s = D ++ [(sx, (x1, x2))]) := by unfold Hid; rw [HT.out, if_neg hgo]
    have hm3 : D.length + 1 ≤ maxLen := by unfold maxLen; omega
    have hm4 : (D.length + 1) * 32 ≤ 140737488355328 := by omega
    clear HT
    by_cases hpe : sx = p
    ·have h2 : ¬ (x1, x2) ∈ s := by
      intro h; apply hgo; unfold gone; rw [decide_eq_true hpe, decide_eq_true h]; rfl
     rw [decide_eq_false h2] at C
     subst hpe
     clear hgo h2
     go_wp2_with fail
     refine C.mono ?_
     rintro e w2 ⟨rfl, hb2⟩
     have HB2 := z9 (bel HB.out hb2)
     have HO2 := z9 (own_below HO.out hb2)
     have b1 := keep_cell hb2 a1
     have b2 := keep_cell hb2 a2
     have b3 := keep_cell hb2 a3
     have HS3 : Hid (w.heap.size ≤ (w2.alloc (.cells #[.string sx, .int .i64 x1, .int .i64 x2] 96)).heap.size) := Nat.le_trans HB2.out.size (alloc_le _ _)
     clear hb2 C a1 a2 a3
     go_wp2_with (at_builtin; refine wpList_append_own_at _ rfl (.tmp 34) (.tmp 39) 90 rfl w.heap.size 96 i0 (.agg #[.string ⟨#[]⟩, .int .i64 0, .int .i64 0]) 3 32 Tryz.underlying90 hi0 hz0 hz1 hz2 rfl (by decide) u7 D.length (flat D) rfl (HO2.out.alloc _) ⟨w2.heap.size, 0, none⟩ 1 1 (flat [(sx, (x1, x2))]) rfl rfl (mark_new w2 (sx, (x1, x2)) _) (flat_one _) hm3 hm4 HS3.out ?_; intro v' w3 hown' hgrow _ hat; have HB3 : Hid (Below w.heap.size w w3) := own_grow HO2.out (HB2.out.alloc HB2.out.size _) hgrow HS3.out; have HW4 := z9 (own_app rfl rfl hown'); clear hown' hgrow hat)
     rw [← HT2.out] at HW4
     go_roundw
     case rel => exact ⟨k + 1, by omega, by go_num, HW4, HB3⟩
     case measure => simp [intOf]; omega
    ·have hne : ¬ sx.toList = p.toList := fun e => hpe (Bm.bytes_inj e)
     have hnb : (sx.toList == p.toList) = false := by simpa using hne
     obtain ⟨tt, htt⟩ : ∃ tt, tt = decide ((x1, x2) ∈ s) := ⟨_, rfl⟩
     rw [← htt] at C
     clear hgo hpe hne htt
     go_wp2_with fail
     refine C.mono ?_
     rintro e w2 ⟨rfl, hb2⟩
     have HB2 := z9 (bel HB.out hb2)
     have HO2 := z9 (own_below HO.out hb2)
     have b1 := keep_cell hb2 a1
     have b2 := keep_cell hb2 a2
     have b3 := keep_cell hb2 a3
     have HS3 : Hid (w.heap.size ≤ (w2.alloc (.cells #[.string sx, .int .i64 x1, .int .i64 x2] 96)).heap.size) := Nat.le_trans HB2.out.size (alloc_le _ _)
     clear hb2 C a1 a2 a3
     go_wp2_with (at_builtin; refine wpList_append_own_at _ rfl (.tmp 34) (.tmp 39) 90 rfl w.heap.size 96 i0 (.agg #[.string ⟨#[]⟩, .int .i64 0, .int .i64 0]) 3 32 Tryz.underlying90 hi0 hz0 hz1 hz2 rfl (by decide) u7 D.length (flat D) rfl (HO2.out.alloc _) ⟨w2.heap.size, 0, none⟩ 1 1 (flat [(sx, (x1, x2))]) rfl rfl (mark_new w2 (sx, (x1, x2)) _) (flat_one _) hm3 hm4 HS3.out ?_; intro v' w3 hown' hgrow _ hat; have HB3 : Hid (Below w.heap.size w w3) := own_grow HO2.out (HB2.out.alloc HB2.out.size _) hgrow HS3.out; have HW4 := z9 (own_app rfl rfl hown'); clear hown' hgrow hat)
     rw [← HT2.out] at HW4
     go_roundw
     case rel => exact ⟨k + 1, by omega, by go_num, HW4, HB3⟩
     case measure => simp [intOf]; omega
  ·obtain rfl : k = n := by omega
   have HD : Hid (MksNew w.heap.size wr u7 (without l p s)) := by
    refine ⟨?_, La.Lies.own HO.out⟩
    have := own_mks HO.out
    rwa [List.take_of_length_le (by rw [HL.out]; exact Nat.le_refl _)] at this
   go_wp2_with fail
   go_ret
   exact ⟨_, rfl, HD.out, HB.out⟩
end We
end Go.Proofs.YtlmdchpbpgcfmaaGreatDoor
