/- What the reference says of dots that a join saw: In, and the doc's own seen. -/
import Derived.Test.YtlmdchpbpgcfmaaGreatDoorK3
import Derived.Test.YtlmdchpbpgcfmaaGreatDoorJ9
set_option linter.unusedVariables false
set_option maxRecDepth 100000
set_option maxHeartbeats 8000000
namespace Go.Proofs.YtlmdchpbpgcfmaaGreatDoor
namespace Hb
open Go.ChangeShapes Go.WideShapes Go.ChangeAt Go.RowKit Cm Ka Kb Na Om Oa Oz Oc Og Oi Ol Hm
open La (bel bel_drew errV_zero errV_ne own_ge own_grow own_below)
theorem new_cellD {w w2:World} {x:Dt} {t:TypeId} (hb:Below (w.alloc (.cells #[.int .i64 x.1,.int .i64 x.2] t)).heap.size (w.alloc (.cells #[.int .i64 x.1,.int .i64 x.2] t)) w2):
  w2.cell? ⟨w.heap.size,0,none⟩=some (.int .i64 x.1)∧w2.cell? ⟨w.heap.size,1,none⟩=some (.int .i64 x.2):=by
 have hlt:w.heap.size<(w.alloc (.cells #[.int .i64 x.1,.int .i64 x.2] t)).heap.size:=by simp
 have h2:(w.alloc (.cells #[.int .i64 x.1,.int .i64 x.2] t)).heap[w.heap.size]? =some (.cells #[.int .i64 x.1,.int .i64 x.2] t):=heap_alloc_new w _
 refine⟨(hb.cell (p:=⟨w.heap.size,0,none⟩) hlt).trans ?_,(hb.cell (p:=⟨w.heap.size,1,none⟩) hlt).trans ?_⟩<;>(simp only[World.cell?,h2];rfl)
theorem in_any (v:Value) (l:List Dt) (p1 p2:Int) (w:World) (h:DtsAt w v l) (hn:l.length≤1048576):
  Calls Tryz.prog 108 #[v,.agg #[.int .i64 p1,.int .i64 p2]] w fun e w'=>e=.returned (.bool (decide ((p1,p2) ∈ l)))∧Below w.heap.size w w':=by
 obtain⟨q,c,rfl,hdi,_⟩:=h
 obtain⟨n,hnn⟩:∃n,l.length=n:=⟨_,rfl⟩
 rw[hnn] at hn
 rw[hnn]
 have HL:=z9 hnn
 have HI:=z9 hdi
 have HB0:Hid (Below w.heap.size w (w.alloc (.cells #[.int .i64 p1,.int .i64 p2] 72))):=(Below.refl _ w).alloc (Nat.le_refl _) _
 have HX1:Hid ((w.alloc (.cells #[.int .i64 p1,.int .i64 p2] 72)).cell? ⟨w.heap.size,0,none⟩=some (.int .i64 p1)∧(w.alloc (.cells #[.int .i64 p1,.int .i64 p2] 72)).cell? ⟨w.heap.size,1,none⟩=some (.int .i64 p2)):=new_cellD (x:=(p1,p2)) (Below.refl _ _)
 clear hnn hdi
 go_enter Tryz.func108,Tryz.ntmps108
 go_wp2
 go_loopw [5] (fun vi wr=>∃(k:Nat),k≤n∧vi=.int .i64 k∧Hid (∀j,j<k→l.getD j noneD≠(p1,p2))∧Hid (Below w.heap.size w wr)∧Hid (wr.cell? ⟨w.heap.size,0,none⟩=some (.int .i64 p1)∧wr.cell? ⟨w.heap.size,1,none⟩=some (.int .i64 p2))) (fun vi _=>n-(intOf vi).toNat)
 case atStart=>exact⟨0,by omega,rfl,fun j hj=>absurd hj (by omega),HB0,HX1⟩
 case round=>
  obtain⟨k,hk,rfl,H1,HB,HX0⟩:=hrel
  by_cases hlt:k<n
  ·have hltz:(k:Int)<n:=by omega
   obtain⟨b,o,rfl,hc⟩:=HI.out.some (by intro e;have:=HL.out;rw[e] at this;simp at this;omega)
   have hkl:k<l.length:=by rw[HL.out];exact hlt
   have ha:=(hc k hkl).below HB.out (hc k hkl).lt
   obtain⟨x,hx⟩:∃x,x=l.getD k noneD:=⟨_,rfl⟩
   rw[←hx] at ha
   have HX:=z9 hx
   obtain⟨x1,x2⟩:=x
   obtain⟨a1,a2⟩:=ha
   simp only at a1 a2
   obtain⟨d0,d1⟩:=HX0.out
   have hq:∀w,(binOp .eql 72 (.agg #[.int .i64 x1,.int .i64 x2]) (.agg #[.int .i64 p1,.int .i64 p2])).run Tryz.prog w=.ok (.bool (decide (((x1,x2):Dt)=(p1,p2)))) w:=fun w=>eql_dot x1 p1 x2 p2 w
   have hg:Tryz.prog.eqGuardType Tryz.prog.depth 72=false:=by kernel_rfl
   clear hc hx
   by_cases hxy:((x1,x2):Dt)=(p1,p2)
   ·rw[decide_eq_true hxy] at hq
    have HM:Hid (decide ((p1,p2) ∈ l)=true):=by
     rw[Hid,decide_eq_true_eq,←hxy,HX.out];exact getD_mem hkl
    clear hxy
    go_wp2
    go_quiet (fail)
    go_wp2
    go_ret
    exact⟨by rw[HM.out];rfl,bel_drew HB.out _⟩
   ·rw[decide_eq_false hxy] at hq
    have H3:Hid (∀j,j<k+1→l.getD j noneD≠(p1,p2)):=by
     intro j hj
     rcases Nat.lt_succ_iff_lt_or_eq.1 hj with h | rfl
     ·exact H1.out j h
     ·rw[←HX.out];exact fun e=>hxy e
    clear hxy
    go_wp2
    go_quiet (fail)
    go_wp2
    go_roundw
    case rel=>exact⟨k+1,by omega,by go_num,H3,bel_drew HB.out _,HX0.out⟩
    case measure=>simp[intOf];omega
  ·obtain rfl:k=n:=by omega
   have HM:Hid (decide ((p1,p2) ∈ l)=false):=by
    rw[Hid,decide_eq_false_iff_not]
    intro h
    obtain⟨j,hj,e⟩:=List.mem_iff_getElem.1 h
    have:=H1.out j (by rw[←HL.out];exact hj)
    rw[List.getD_eq_getElem?_getD,List.getElem?_eq_getElem hj] at this
    exact absurd e this
   go_wp2
   go_ret
   exact⟨by rw[HM.out];rfl,HB.out⟩
theorem saw_step {l:List Ox} {k:Nat} (hk:k<l.length) (p:ByteArray) (d:Dt):saw (l.take (k+1)) p d=(saw (l.take k) p d||(decide ((l.getD k oz).2.1=4)&&(decide ((l.getD k oz).2.2.1=p)&&decide (d ∈ (l.getD k oz).2.2.2.2)))):=by
 rw[List.take_add_one,List.getElem?_eq_getElem hk,List.getD_eq_getElem?_getD,List.getElem?_eq_getElem hk]
 exact saw_snoc
theorem saw_found {l:List Ox} {k:Nat} (hk:k<l.length) {p:ByteArray} {d:Dt} (h:(decide ((l.getD k oz).2.1=4)&&(decide ((l.getD k oz).2.2.1=p)&&decide (d ∈ (l.getD k oz).2.2.2.2)))=true):saw l p d=true:=by
 simp only[Bool.and_eq_true,decide_eq_true_eq] at h
 exact saw_iff.2 ⟨_,getO_mem hk,h.1,h.2.1,h.2.2⟩
theorem seen_ref (D:Nat) (v:Value) (l:List Ox) (p:ByteArray) (a b:Int) (w:World) (hD:w.cell? ⟨D,3,none⟩=some v) (h:OpsAt w v l) (hn:l.length≤400) (hm:∀x ∈ l,x.2.2.2.2.length≤1048576):
  Calls Tryz.prog 64 #[.pointer (some ⟨D,0,none⟩),.string p,.agg #[.int .i64 a,.int .i64 b]] w fun e w'=>e=.returned (.bool (saw l p (a,b)))∧Below w.heap.size w w':=by
 obtain⟨q,c,rfl,hin,_⟩:=h
 obtain⟨n,hnn⟩:∃n,l.length=n:=⟨_,rfl⟩
 rw[hnn] at hn hD
 have HL:=z9 hnn
 have HI:=z9 hin
 have HM:=z9 hm
 have HD:Hid (∀W,Below w.heap.size w W→W.cell? ⟨D,3,none⟩=some (.slice q n c)):=fun W hb=>keep_cell hb hD
 have HX0:Hid ((w.alloc (.cells #[.int .i64 a,.int .i64 b] 72)).cell? ⟨w.heap.size,0,none⟩=some (.int .i64 a)∧(w.alloc (.cells #[.int .i64 a,.int .i64 b] 72)).cell? ⟨w.heap.size,1,none⟩=some (.int .i64 b)):=new_cellD (x:=(a,b)) (Below.refl _ _)
 have HB0:Hid (Below w.heap.size w (w.alloc (.cells #[.int .i64 a,.int .i64 b] 72))):=(Below.refl _ w).alloc (Nat.le_refl _) _
 clear hnn hin hm hD
 have hnz:(n:Int)≤400:=by omega
 go_enter Tryz.func64,Tryz.ntmps64
 go_wp2_with fail
 go_loopw [7] (fun vi wr=>∃(k:Nat),k≤n∧vi=.int .i64 k∧Hid (saw (l.take k) p (a,b)=false)∧Hid (Below w.heap.size w wr)∧Hid (wr.cell? ⟨w.heap.size,0,none⟩=some (.int .i64 a)∧wr.cell? ⟨w.heap.size,1,none⟩=some (.int .i64 b))) (fun vi _=>n-(intOf vi).toNat)
 case atStart=>exact⟨0,by omega,rfl,rfl,HB0,HX0⟩
 case round=>
  clear HX0 HB0
  obtain⟨k,hk,rfl,HS,HB,HX⟩:=hrel
  have d3:=HD.out _ HB.out
  obtain⟨d0,d1⟩:=HX.out
  by_cases hlt:k<n
  ·have hltz:(k:Int)<n:=by omega
   obtain⟨bo,oo,rfl,hc⟩:=HI.out.some (by intro e;have:=HL.out;rw[e] at this;simp at this;omega)
   have hkl:k<l.length:=by rw[HL.out];exact hlt
   have ha:=(hc k hkl).below HB.out
   have hxm:=HM.out _ (getO_mem hkl)
   have HST:=saw_step hkl p (a,b)
   have HFO:Hid ((decide ((l.getD k oz).2.1=4)&&(decide ((l.getD k oz).2.2.1=p)&&decide ((a,b) ∈ (l.getD k oz).2.2.2.2)))=true→saw l p (a,b)=true):=fun h=>saw_found hkl h
   obtain⟨x,hx⟩:∃x,x=l.getD k oz:=⟨_,rfl⟩
   rw[←hx] at ha hxm HST HFO
   rw[HS.out,Bool.false_or] at HST
   obtain⟨⟨xa,xb⟩,xt,xp,xc,xs⟩:=x
   obtain⟨vx,⟨a0,a1,a2,a3,a4,a5⟩,hdx⟩:=ha
   simp only at a0 a1 a2 a3 a4 a5 hdx hxm HST HFO
   have HST2:=z9 HST
   obtain⟨pv,nv,cv,rfl⟩:∃pv nv cv,vx=.slice pv nv cv:=by obtain⟨_,_,e9,_⟩:=hdx;exact⟨_,_,_,e9⟩
   have HBX:Hid (Below wr.heap.size wr (wr.alloc (.cells #[.int .i64 xa,.int .i64 xb,.int .i64 xt,.string xp,.int .i64 xc,.slice pv nv cv] 75))):=(Below.refl _ _).alloc (Nat.le_refl _) _
   have C:=in_any (.slice pv nv cv) xs a b (wr.alloc (.cells #[.int .i64 xa,.int .i64 xb,.int .i64 xt,.string xp,.int .i64 xc,.slice pv nv cv] 75)) (hdx.below HBX.out) hxm
   obtain⟨tb,htb⟩:∃tb,tb=decide ((a,b) ∈ xs):=⟨_,rfl⟩
   rw[←htb] at C HST2 HFO
   have H6:Hid (∀W,Below (wr.alloc (.cells #[.int .i64 xa,.int .i64 xb,.int .i64 xt,.string xp,.int .i64 xc,.slice pv nv cv] 75)).heap.size (wr.alloc (.cells #[.int .i64 xa,.int .i64 xb,.int .i64 xt,.string xp,.int .i64 xc,.slice pv nv cv] 75)) W→Six W wr.heap.size xa xb xt xp xc (.slice pv nv cv)∧Below wr.heap.size wr W):=fun W hb=>⟨(six_new wr xa xb xt xp xc (.slice pv nv cv) 75).below hb,bel HBX.out hb⟩
   have y0:=keep_cell HBX.out d0
   have y1:=keep_cell HBX.out d1
   clear hc hx HST hdx hxm hkl htb
   go_wp2_with fail
   refine C.mono ?_
   rintro e w2 ⟨rfl,hb2⟩
   obtain⟨⟨e0,e1,e2,e3,e4,e5⟩,hbr⟩:=H6.out w2 hb2
   have HB2:=z9 (bel HB.out hbr)
   have HX2:Hid (w2.cell? ⟨w.heap.size,0,none⟩=some (.int .i64 a)∧w2.cell? ⟨w.heap.size,1,none⟩=some (.int .i64 b)):=⟨keep_cell hbr d0,keep_cell hbr d1⟩
   clear hb2 C hbr a0 a1 a2 a3 a4 a5 d0 d1 d3 y0 y1
   by_cases t4:xt=4
   ·have t4b:(xt==4)=true:=by simpa using t4
    by_cases hp:xp=p
    ·have hpb:(xp.toList==p.toList)=true:=by rw[hp];simp
     rw[decide_eq_true t4,decide_eq_true hp,Bool.true_and,Bool.true_and] at HST2 HFO
     clear t4 hp
     cases tb
     ·go_wp2_with fail
      go_roundw
      case rel=>exact⟨k+1,by omega,by go_num,HST2,HB2,HX2⟩
      case measure=>simp[intOf];omega
     ·have hF:=HFO.out rfl
      go_wp2_with fail
      go_ret
      exact⟨by rw[hF];rfl,HB2.out⟩
    ·have hpb:(xp.toList==p.toList)=false:=by
      cases h9:(xp.toList==p.toList)
      ·rfl
      ·exact absurd (mk_eq (by simpa using h9)) hp
     rw[decide_eq_false hp,Bool.false_and,Bool.and_false] at HST2
     clear t4 hp
     go_wp2_with fail
     go_roundw
     case rel=>exact⟨k+1,by omega,by go_num,HST2,HB2,HX2⟩
     case measure=>simp[intOf];omega
   ·have t4b:(xt==4)=false:=by simpa using t4
    rw[decide_eq_false t4,Bool.false_and] at HST2
    clear t4
    go_wp2_with fail
    go_roundw
    case rel=>exact⟨k+1,by omega,by go_num,HST2,HB2,HX2⟩
    case measure=>simp[intOf];omega
  ·obtain rfl:n=k:=by omega
   have hltz:¬(n:Int)<n:=by omega
   have HE:Hid (saw l p (a,b)=false):=by
    have h9:=HS.out
    rw[List.take_of_length_le (by rw[HL.out];exact Nat.le_refl _)] at h9
    exact h9
   go_wp2_with fail
   go_ret
   exact⟨by rw[HE.out];rfl,HB.out⟩
end Hb
end Go.Proofs.YtlmdchpbpgcfmaaGreatDoor
