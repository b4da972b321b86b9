import Derived.Test.YtlmdchpbpgcfmaaGreatDoorJ5
import Derived.Laws.IdiomCopy
import Derived.Tactics
import Derived.Laws.StructEq
set_option linter.unusedVariables false
set_option maxRecDepth 100000
set_option maxHeartbeats 8000000
/- When two dots, two marks are the same; what slices.Index, slices.Contains, the closure of Join and slices.IndexFunc with it answer; what clear does to a row of structs. -/
namespace Go.Proofs.YtlmdchpbpgcfmaaGreatDoor
namespace Nk
open Go.ChangeShapes Go.WideShapes Go.ChangeAt Go.RowKit Cm Ka Kb Na Nb Nc Nd Nj
open La (bel bel_drew errV_zero errV_ne own_ge own_grow own_below)
theorem dot_same {n m a b:Int}:decide (((n,a):Dt)=(m,b))=(n==m&&a==b):=by
 rw[Bool.eq_iff_iff];simp
theorem mark_same {s t:ByteArray} {n m a b:Int}:decide (((s,(n,a)):Mk)=(t,(m,b)))=(s.toList==t.toList&&(n==m&&a==b)):=by
 rw[Bool.eq_iff_iff]
 simp only[decide_eq_true_eq,Bool.and_eq_true,beq_iff_eq]
 constructor
 ·intro h;injection h with h1 h2;injection h2 with h2 h3;exact⟨by rw[h1],h2,h3⟩
 ·rintro⟨h1,rfl,rfl⟩;rw[Bm.bytes_inj h1]
theorem eql_dot (n m a b:Int) (w:World):(binOp .eql 72 (.agg #[.int .i64 n,.int .i64 a]) (.agg #[.int .i64 m,.int .i64 b])).run Tryz.prog w=.ok (.bool (decide (((n,a):Dt)=(m,b)))) w:=by
 have u3:=Tryz.underlying3
 have a3:=Tryz.isAgg3
 have z3:=Tryz.sizeOf3
 have hS:Tryz.prog.underlying 72=some (.struct (Tryz.prog.fieldsOf 72)):=by kernel_rfl
 have hp:Tryz.prog.stoodInHeld 72=false:=by kernel_rfl
 rw[run_eql_struct,show(10000:Nat)=9999+1 from rfl,run_equalIn_agg w 9999 72 _ _ hS hp]
 simp only[Program.fieldsOf,Tryz.underlying72]
 rw[dot_same]
 go_simp
 by_cases h2:n=m<;>by_cases h3:a=b<;>simp[h2,h3]
/- slices.Index of a dot: where it is, or below 0 -/
theorem index_any (q:Option Addr) (n c:Nat) (l:List Dt) (p1 p2:Int) (w:World) (hl:l.length=n) (h:DotsIn w q l) (hn:n≤1048576):
  Calls Tryz.prog 204 #[.slice q n c,.agg #[.int .i64 p1,.int .i64 p2]] w fun e w'=>(∃z,e=.returned (.int .i64 z)∧(0≤z↔(p1,p2) ∈ l))∧Below w.heap.size w w':=by
 have HL:=z9 hl
 have HI:=z9 h
 have HB0:Hid (Below w.heap.size w (w.alloc (.cells #[.int .i64 p1,.int .i64 p2] 72))):=(Below.refl _ w).alloc (Nat.le_refl _) _
 have HX1:Hid ((w.alloc (.cells #[.int .i64 p1,.int .i64 p2] 72)).cell? ⟨w.heap.size,0,none⟩=some (.int .i64 p1)∧(w.alloc (.cells #[.int .i64 p1,.int .i64 p2] 72)).cell? ⟨w.heap.size,1,none⟩=some (.int .i64 p2)):=new_cellD (x:=(p1,p2)) (Below.refl _ _)
 clear hl h
 go_enter Tryz.func204,Tryz.ntmps204
 go_wp2
 go_loopw [8] (fun vi wr=>∃(k:Nat),k≤n∧vi=.int .i64 k∧Hid (∀j,j<k→l.getD j noneD≠(p1,p2))∧Hid (Below w.heap.size w wr)∧Hid (wr.cell? ⟨w.heap.size,0,none⟩=some (.int .i64 p1)∧wr.cell? ⟨w.heap.size,1,none⟩=some (.int .i64 p2))) (fun vi _=>n-(intOf vi).toNat)
 case atStart=>exact⟨0,by omega,rfl,fun j hj=>absurd hj (by omega),HB0,HX1⟩
 case round=>
  obtain⟨k,hk,rfl,H1,HB,HX0⟩:=hrel
  by_cases hlt:k<n
  ·have hltz:(k:Int)<n:=by omega
   obtain⟨b,o,rfl,hc⟩:=HI.out.some (by intro e;have:=HL.out;rw[e] at this;simp at this;omega)
   have hkl:k<l.length:=by rw[HL.out];exact hlt
   have ha:=(hc k hkl).below HB.out (hc k hkl).lt
   obtain⟨x,hx⟩:∃x,x=l.getD k noneD:=⟨_,rfl⟩
   rw[←hx] at ha
   have HX:=z9 hx
   obtain⟨x1,x2⟩:=x
   obtain⟨a1,a2⟩:=ha
   simp only at a1 a2
   obtain⟨d0,d1⟩:=HX0.out
   have hq:∀w,(binOp .eql 72 (.agg #[.int .i64 p1,.int .i64 p2]) (.agg #[.int .i64 x1,.int .i64 x2])).run Tryz.prog w=.ok (.bool (decide (((p1,p2):Dt)=(x1,x2)))) w:=fun w=>eql_dot p1 x1 p2 x2 w
   have hg:Tryz.prog.eqGuardType Tryz.prog.depth 72=false:=by kernel_rfl
   clear hc hx
   by_cases hxy:((p1,p2):Dt)=(x1,x2)
   ·rw[decide_eq_true hxy] at hq
    have HM:Hid ((0:Int)≤(k:Int)↔(p1,p2) ∈ l):=by
     refine⟨fun _=> ?_,fun _=>by omega⟩
     rw[hxy,HX.out];exact getD_mem hkl
    clear hxy
    go_wp2
    go_quiet (fail)
    go_wp2
    go_ret
    exact⟨⟨_,rfl,HM.out⟩,bel_drew HB.out _⟩
   ·rw[decide_eq_false hxy] at hq
    have H3:Hid (∀j,j<k+1→l.getD j noneD≠(p1,p2)):=by
     intro j hj
     rcases Nat.lt_succ_iff_lt_or_eq.1 hj with h | rfl
     ·exact H1.out j h
     ·rw[←HX.out];exact fun e=>hxy e.symm
    clear hxy
    go_wp2
    go_quiet (fail)
    go_wp2
    go_roundw
    case rel=>exact⟨k+1,by omega,by go_num,H3,bel_drew HB.out _,HX0.out⟩
    case measure=>simp[intOf];omega
  ·obtain rfl:k=n:=by omega
   have HM:Hid ((0:Int)≤(-1:Int)↔(p1,p2) ∈ l):=by
    refine⟨fun h=>by omega,fun h=> ?_⟩
    obtain⟨j,hj,e⟩:=List.mem_iff_getElem.1 h
    have:=H1.out j (by rw[←HL.out];exact hj)
    rw[List.getD_eq_getElem?_getD,List.getElem?_eq_getElem hj] at this
    exact absurd e this
   go_wp2
   go_ret
   exact⟨⟨_,rfl,HM.out⟩,HB.out⟩
theorem contains_any (v:Value) (l:List Dt) (p1 p2:Int) (w:World) (h:DtsAt w v l) (hn:l.length≤1048576):
  Calls Tryz.prog 184 #[v,.agg #[.int .i64 p1,.int .i64 p2]] w fun e w'=>e=.returned (.bool (decide ((p1,p2) ∈ l)))∧Below w.heap.size w w':=by
 have hb1:Below w.heap.size w (w.alloc (.cells #[.int .i64 p1,.int .i64 p2] 72)):=(Below.refl _ w).alloc (Nat.le_refl _) _
 obtain⟨q,c,rfl,hd,_⟩:=h
 have C:=index_any q l.length c l p1 p2 _ rfl (hd.below hb1) hn
 obtain⟨n,hnn⟩:∃n,n=l.length:=⟨_,rfl⟩
 rw[←hnn] at C hn
 rw[←hnn]
 have HB:=z9 hb1
 clear hd hb1 hnn
 go_enter Tryz.func184,Tryz.ntmps184
 go_wp2_with fail
 refine C.mono ?_
 rintro e w2 ⟨⟨z,rfl,hz⟩,hb2⟩
 have HB2:=z9 (bel HB.out hb2)
 by_cases hm:(p1,p2) ∈ l
 ·have hz0:(0:Int)≤z:=hz.2 hm
  have HD:Hid (decide ((p1,p2) ∈ l)=true):=decide_eq_true hm
  clear hb2 C hz hm
  go_wp2_with fail
  go_ret
  exact⟨by rw[HD.out];rfl,HB2.out⟩
 ·have hz0:¬(0:Int)≤z:=fun h=>hm (hz.1 h)
  have HD:Hid (decide ((p1,p2) ∈ l)=false):=decide_eq_false hm
  clear hb2 C hz hm
  go_wp2_with fail
  go_ret
  exact⟨ret_bool (by rw[HD.out];exact decide_eq_false (by omega)),HB2.out⟩
/- is a mark one that was seen at a place? -/
def gone (p:ByteArray) (s:List Dt) (x:Mk):Bool:=decide (x.1=p)&&decide (x.2 ∈ s)
theorem closure_any (s:ByteArray) (a b:Int) (A B:Nat) (p:ByteArray) (v:Value) (l:List Dt) (w:World) (hA:w.cell? ⟨A,0,none⟩=some (.string p)) (hB:w.cell? ⟨B,0,none⟩=some v) (h:DtsAt w v l) (hn:l.length≤1048576):
  Calls Tryz.prog 183 #[.agg #[.string s,.int .i64 a,.int .i64 b],.pointer (some ⟨A,0,none⟩),.pointer (some ⟨B,0,none⟩)] w fun e w'=>e=.returned (.bool (gone p l (s,(a,b))))∧Below w.heap.size w w':=by
 have hb1:Below w.heap.size w (w.alloc (.cells #[.string s,.int .i64 a,.int .i64 b] 96)):=(Below.refl _ w).alloc (Nat.le_refl _) _
 have hA2:=keep_cell hb1 hA
 have hB2:=keep_cell hb1 hB
 have HB:=z9 hb1
 have C:=contains_any v l a b _ (h.below hb1) hn
 by_cases hsp:s=p
 ·subst hsp
  have HG:Hid (gone s l (s,(a,b))=decide ((a,b) ∈ l)):=by unfold Hid gone;simp
  rw[HG.out]
  obtain⟨t,ht⟩:∃t,t=decide ((a,b) ∈ l):=⟨_,rfl⟩
  rw[←ht] at C ⊢
  obtain⟨q,c,rfl,_⟩:=h
  clear HG ht hb1 hA hB hn
  go_enter Tryz.func183,Tryz.ntmps183
  go_wp2_with fail
  refine C.mono ?_
  rintro e w2 ⟨rfl,hb2⟩
  have HB2:=z9 (bel HB.out hb2)
  clear hb2 C
  go_wp2_with fail
  go_ret
  exact⟨rfl,HB2.out⟩
 ·have HG:Hid (gone p l (s,(a,b))=false):=by unfold Hid gone;simp[hsp]
  have hne:¬s.toList=p.toList:=fun e=>hsp (Bm.bytes_inj e)
  have hnb:(s.toList==p.toList)=false:=by simpa using hne
  rw[HG.out]
  clear HG hb1 hA hB hn C hsp hne h
  go_enter Tryz.func183,Tryz.ntmps183
  go_wp2_with fail
  go_ret
  exact⟨rfl,HB.out⟩
end Nk
end Go.Proofs.YtlmdchpbpgcfmaaGreatDoor
/- What slices.IndexFunc and slices.DeleteFunc with the closure of Join answer; what clear does to a row of structs. -/
namespace Go.Proofs.YtlmdchpbpgcfmaaGreatDoor
namespace Nl
open Go.ChangeShapes Go.WideShapes Go.ChangeAt Go.RowKit Cm Ka Kb Na Nb Nc Nd Nj Nk
open La (bel bel_drew errV_zero errV_ne own_ge own_grow own_below)
/- clear of a slice of n elements, however many cells each has -/
theorem run_clear {P:Program} (w:World) (t e ty:TypeId) (z:Value) (ht:P.underlying t=some (.slice e)) (hv:∀w,(zeroValue e).run P w=.ok z w) (h0:0<z.cells.size) (h1:∀u ∈ z.cells.toList,u.oneCell'=true) (b o n c:Nat) (hn:0<n)
  (hc:∀j,j<n*z.cells.size→(w.cell? ⟨b,o+j,none⟩).isSome=true) (hf:∀j,w.frozen? ⟨b,j,none⟩=false):
  (Builtin.clear_ #[t] ty #[.slice (some ⟨b,o,none⟩) n c]).run P w=.ok (.tuple #[]) (w.setCells b o (Builtin.zeroCells z.cells n).toList):=by
 have hlen:(Builtin.zeroCells z.cells n).toList.length=n*z.cells.size:=by rw[Array.length_toList,size_zeroCells]
 have hone:∀v ∈ (Builtin.zeroCells z.cells n).toList,v.oneCell'=true:=by
  intro v hv
  simp only[Builtin.zeroCells,Array.toList_map,List.mem_map] at hv
  obtain⟨i,_,rfl⟩:=hv
  have hi:i%z.cells.size<z.cells.size:=Nat.mod_lt _ h0
  rw[getElem!_pos z.cells _ hi]
  exact h1 _ (by rw[Array.mem_toList_iff];exact Array.getElem_mem hi)
 have hst:=run_storeCells_cells (P:=P) b o (Builtin.zeroCells z.cells n).toList 0 w (by intro j hj;rw[hlen] at hj;exact hc j hj) (by intro j _;exact hf _) hone
 simp only[Nat.add_zero] at hst
 obtain⟨m,rfl⟩:∃m,n=m+1:=⟨n-1,by omega⟩
 simp[Builtin.clear_,run_underlying ht,hv,hst]
theorem below_setCells {B b:Nat} {a:World} (hb:B≤b):∀(vs:List Value) (o:Nat) (w:World),Below B a w→Below B a (w.setCells b o vs)
 | [],_,_,h=>h
 | v::r,o,w,h=>below_setCells hb r (o+1) _ (h.setCell (p:=⟨b,o,none⟩) hb v)
/- where the first mark is that was seen; -1 if there is none -/
def FirstAt (p:ByteArray) (s:List Dt) (l:List Mk) (z:Int):Prop:=(z= -1∧∀j,j<l.length→gone p s (l.getD j none1)=false)∨∃k:Nat,k<l.length∧z=k∧gone p s (l.getD k none1)=true∧∀j,j<k→gone p s (l.getD j none1)=false
theorem indexFunc_any (q:Option Addr) (n c:Nat) (l:List Mk) (A B:Nat) (p:ByteArray) (v:Value) (s:List Dt) (w:World) (hl:l.length=n) (h:MarksIn w q l) (hn:n≤1048576) (hA:w.cell? ⟨A,0,none⟩=some (.string p)) (hB:w.cell? ⟨B,0,none⟩=some v) (hs:DtsAt w v s) (hsn:s.length≤1048576):
  Calls Tryz.prog 203 #[.slice q n c,.func (.func 183) #[] #[.pointer (some ⟨A,0,none⟩),.pointer (some ⟨B,0,none⟩)]] w fun e w'=>(∃z,e=.returned (.int .i64 z)∧FirstAt p s l z)∧Below w.heap.size w w':=by
 have HL:=z9 hl
 have HI:=z9 h
 have HC:Hid (∀wr,Below w.heap.size w wr→∀sx x1 x2,Calls Tryz.prog 183 #[.agg #[.string sx,.int .i64 x1,.int .i64 x2],.pointer (some ⟨A,0,none⟩),.pointer (some ⟨B,0,none⟩)] wr fun e w'=>e=.returned (.bool (gone p s (sx,(x1,x2))))∧Below wr.heap.size wr w'):=
  fun wr hb sx x1 x2=>closure_any sx x1 x2 A B p v s wr (keep_cell hb hA) (keep_cell hb hB) (hs.below hb) hsn
 clear hl h hA hB hs hsn
 go_enter Tryz.func203,Tryz.ntmps203
 go_wp2
 go_loopw [8] (fun vi wr=>∃(k:Nat),k≤n∧vi=.int .i64 k∧Hid (∀j,j<k→gone p s (l.getD j none1)=false)∧Hid (Below w.heap.size w wr)) (fun vi _=>n-(intOf vi).toNat)
 case atStart=>exact⟨0,by omega,rfl,fun j hj=>absurd hj (by omega),Below.refl _ _⟩
 case round=>
  obtain⟨k,hk,rfl,H1,HB⟩:=hrel
  by_cases hlt:k<n
  ·have hltz:(k:Int)<n:=by omega
   obtain⟨b,o,rfl,hc⟩:=HI.out.some (by intro e;have:=HL.out;rw[e] at this;simp at this;omega)
   have hkl:k<l.length:=by rw[HL.out];exact hlt
   have ha:=(hc k hkl).below HB.out (hc k hkl).lt
   obtain⟨x,hx⟩:∃x,x=l.getD k none1:=⟨_,rfl⟩
   rw[←hx] at ha
   have HX:=z9 hx
   obtain⟨sx,x1,x2⟩:=x
   obtain⟨a1,a2,a3⟩:=ha
   simp only at a1 a2 a3
   clear hc hx
   have C:=HC.out wr HB.out sx x1 x2
   cases hg:gone p s (sx,(x1,x2))
   ·rw[hg] at C
    have H3:Hid (∀j,j<k+1→gone p s (l.getD j none1)=false):=by
     intro j hj
     rcases Nat.lt_succ_iff_lt_or_eq.1 hj with h | rfl
     ·exact H1.out j h
     ·rw[←HX.out];exact hg
    clear hg
    go_wp2_with fail
    refine C.mono ?_
    rintro e w2 ⟨rfl,hb2⟩
    have HB2:=z9 (bel HB.out hb2)
    clear hb2 C
    go_wp2_with fail
    go_roundw
    case rel=>exact⟨k+1,by omega,by go_num,H3,HB2⟩
    case measure=>simp[intOf];omega
   ·rw[hg] at C
    have H3:Hid (FirstAt p s l (k:Int)):=Or.inr ⟨k,hkl,rfl,by rw[←HX.out];exact hg,H1.out⟩
    clear hg
    go_wp2_with fail
    refine C.mono ?_
    rintro e w2 ⟨rfl,hb2⟩
    have HB2:=z9 (bel HB.out hb2)
    clear hb2 C
    go_wp2_with fail
    go_ret
    exact⟨⟨_,rfl,H3.out⟩,HB2.out⟩
  ·obtain rfl:k=n:=by omega
   have H3:Hid (FirstAt p s l (-1)):=Or.inl ⟨rfl,fun j hj=>H1.out j (by rw[←HL.out];exact hj)⟩
   go_wp2_with fail
   go_ret
   exact⟨⟨_,rfl,H3.out⟩,HB.out⟩
end Nl
end Go.Proofs.YtlmdchpbpgcfmaaGreatDoor
/- What slices.DeleteFunc with the closure of Join answers, of a row of the call's own. -/
namespace Go.Proofs.YtlmdchpbpgcfmaaGreatDoor
namespace Nm
open Go.ChangeShapes Go.WideShapes Go.ChangeAt Go.RowKit Cm Ka Kb Na Nb Nc Nd Nj Nk Nl
open La (bel bel_drew errV_zero errV_ne own_ge own_grow own_below)
/- a mark of a row of the call's own, written anew -/
theorem set_mark {w:World} {g i:Nat} {l:List Mk} {x:Mk} (hi:i<l.length) (hc:∀j,j<l.length→MAt w g 0 j (l.getD j none1)):
  ∀j,j<(l.set i x).length→MAt (((w.setCell ⟨g,i*3,none⟩ (.string x.1)).setCell ⟨g,i*3+1,none⟩ (.int .i64 x.2.1)).setCell ⟨g,i*3+2,none⟩ (.int .i64 x.2.2)) g 0 j ((l.set i x).getD j none1):=by
 intro j hj
 rw[List.length_set] at hj
 by_cases h:j=i
 ·subst h
  have e:(l.set j x).getD j none1=x:=by rw[List.getD_eq_getElem?_getD,List.getElem?_set_self hj];rfl
  obtain⟨a1,a2,a3⟩:=hc j hj
  rw[Nat.zero_add] at a1 a2 a3
  rw[e]
  unfold MAt
  rw[Nat.zero_add]
  have n1:(⟨g,j*3,none⟩:Addr)≠⟨g,j*3+1,none⟩:=by intro e;injection e;omega
  have n2:(⟨g,j*3,none⟩:Addr)≠⟨g,j*3+2,none⟩:=by intro e;injection e;omega
  have n3:(⟨g,j*3+1,none⟩:Addr)≠⟨g,j*3+2,none⟩:=by intro e;injection e;omega
  refine⟨?_, ?_, ?_⟩
  ·rw[World.cell?_setCell_other _ _ _ _ n2.symm,World.cell?_setCell_other _ _ _ _ n1.symm,World.cell?_setCell_same _ _ _ a1]
  ·rw[World.cell?_setCell_other _ _ _ _ n3.symm]
   obtain⟨u,hu⟩:=cell?_setCell_some (x:=.string x.1) (p:=⟨g,j*3,none⟩) a2
   rw[World.cell?_setCell_same _ _ _ hu]
  ·obtain⟨u,hu⟩:=cell?_setCell_some (x:=.string x.1) (p:=⟨g,j*3,none⟩) a3
   obtain⟨u2,hu2⟩:=cell?_setCell_some (x:=.int .i64 x.2.1) (p:=⟨g,j*3+1,none⟩) hu
   rw[World.cell?_setCell_same _ _ _ hu2]
 ·have e:(l.set i x).getD j none1=l.getD j none1:=by rw[List.getD_eq_getElem?_getD,List.getD_eq_getElem?_getD,List.getElem?_set_ne (by omega)]
  rw[e]
  obtain⟨a1,a2,a3⟩:=hc j hj
  unfold MAt
  refine⟨?_, ?_, ?_⟩
  ·rw[World.cell?_setCell_other _ _ _ _ (by intro e;injection e;omega),World.cell?_setCell_other _ _ _ _ (by intro e;injection e;omega),World.cell?_setCell_other _ _ _ _ (by intro e;injection e;omega)];exact a1
  ·rw[World.cell?_setCell_other _ _ _ _ (by intro e;injection e;omega),World.cell?_setCell_other _ _ _ _ (by intro e;injection e;omega),World.cell?_setCell_other _ _ _ _ (by intro e;injection e;omega)];exact a2
  ·rw[World.cell?_setCell_other _ _ _ _ (by intro e;injection e;omega),World.cell?_setCell_other _ _ _ _ (by intro e;injection e;omega),World.cell?_setCell_other _ _ _ _ (by intro e;injection e;omega)];exact a3
def stays (p:ByteArray) (s:List Dt) (l:List Mk):List Mk:=l.filter fun x=> !gone p s x
theorem stays_all {p:ByteArray} {s:List Dt} {l:List Mk} (h:∀j,j<l.length→gone p s (l.getD j none1)=false):stays p s l=l:=by
 unfold stays
 rw[List.filter_eq_self]
 intro x hx
 obtain⟨j,hj,e⟩:=List.mem_iff_getElem.1 hx
 have:=h j hj
 rw[List.getD_eq_getElem?_getD,List.getElem?_eq_getElem hj] at this
 simp only[Option.getD_some] at this
 rw[e] at this;simp[this]
theorem take_next {l:List Mk} {k:Nat} (hk:k<l.length):l.take (k+1)=l.take k++[l.getD k none1]:=by
 rw[List.getD_eq_getElem?_getD,List.getElem?_eq_getElem hk,List.take_add_one,List.getElem?_eq_getElem hk];rfl
theorem stays_next {p:ByteArray} {s:List Dt} {l:List Mk} {k:Nat} (hk:k<l.length):stays p s (l.take (k+1))=if gone p s (l.getD k none1) then stays p s (l.take k) else stays p s (l.take k)++[l.getD k none1]:=by
 unfold stays
 rw[take_next hk,List.filter_append]
 cases h:gone p s (l.getD k none1)
 ·simp only[List.filter_cons,h,List.filter_nil];simp
 ·simp only[List.filter_cons,h,List.filter_nil];simp
/- a row whose first i are those that stay of the first j, and whose rest is as it was -/
def Row (w:World) (g n i j:Nat) (K:List Mk) (l:List Mk):Prop:=∃R:List Mk,R.length=n∧(∀x,x<R.length→MAt w g 0 x (R.getD x none1))∧R.take i=K∧R.drop j=l.drop j
theorem Row.below {w w':World} {g n i j:Nat} {K l:List Mk} (h:Row w g n i j K l) (hb:Below w.heap.size w w'):Row w' g n i j K l:=by
 obtain⟨R,h1,h2,h3,h4⟩:=h
 exact⟨R,h1,fun x hx=>(h2 x hx).below hb (h2 x hx).lt,h3,h4⟩
theorem Row.at{w:World} {g n i j:Nat} {K l:List Mk} (h:Row w g n i j K l) (hl:l.length=n) (hj:j<n):MAt w g 0 j (l.getD j none1):=by
 obtain⟨R,h1,h2,_,h4⟩:=h
 have e:R.getD j none1=l.getD j none1:=by
  have e1:(R.drop j)[0]? =(l.drop j)[0]? :=by rw[h4]
  rw[List.getElem?_drop,List.getElem?_drop,Nat.add_zero] at e1
  rw[List.getD_eq_getElem?_getD,List.getD_eq_getElem?_getD,e1]
 rw[←e];exact h2 j (by omega)
theorem Row.any {w:World} {g n i j:Nat} {K l:List Mk} (h:Row w g n i j K l) {x:Nat} (hx:x<n):∃y,MAt w g 0 x y:=by
 obtain⟨R,h1,h2,_,_⟩:=h
 exact⟨_,h2 x (by omega)⟩
theorem Row.skip {w:World} {g n i j:Nat} {K l:List Mk} (h:Row w g n i j K l):Row w g n i (j+1) K l:=by
 obtain⟨R,h1,h2,h3,h4⟩:=h
 refine⟨R,h1,h2,h3, ?_⟩
 have:=congrArg (List.drop 1) h4
 rwa [List.drop_drop,List.drop_drop] at this
theorem Row.put {w:World} {g n i j:Nat} {K l:List Mk} {x:Mk} (h:Row w g n i j K l) (hij:i<j) (hi:i<n) (hx:x=l.getD j none1):
  Row (((w.setCell ⟨g,i*3,none⟩ (.string x.1)).setCell ⟨g,i*3+1,none⟩ (.int .i64 x.2.1)).setCell ⟨g,i*3+2,none⟩ (.int .i64 x.2.2)) g n (i+1) (j+1) (K++[x]) l:=by
 obtain⟨R,h1,h2,h3,h4⟩:=h
 refine⟨R.set i x,by rw[List.length_set];exact h1,set_mark (by omega) h2, ?_, ?_⟩
 ·rw[←h3,take_next (by rw[List.length_set];omega),List.take_set_of_le (Nat.le_refl _)]
  congr 1
  rw[List.getD_eq_getElem?_getD,List.getElem?_set_self (by omega)];rfl
 ·rw[List.drop_set_of_lt (by omega)]
  have:=congrArg (List.drop 1) h4
  rwa [List.drop_drop,List.drop_drop] at this
theorem cells_some {w:World} {g n:Nat} (h:∀x,x<n→∃y,MAt w g 0 x y):∀k,k<n*3→(w.cell? ⟨g,k,none⟩).isSome=true:=by
 intro k hk
 obtain⟨y,a1,a2,a3⟩:=h (k/3) (by omega)
 have hm:k=k/3*3+k%3:=by omega
 have h3:k%3=0∨k%3=1∨k%3=2:=by omega
 rw[Nat.zero_add] at a1 a2 a3
 rcases h3 with e | e | e
 ·rw[hm,e,Nat.add_zero,a1];rfl
 ·rw[hm,e,a2];rfl
 ·rw[hm,e,a3];rfl
def zM:Value:=.agg #[.string ⟨#[]⟩,.int .i64 0,.int .i64 0]
theorem zero_mark (w:World):(zeroValue 96).run Tryz.prog w=.ok zM w:=by kernel_rfl
theorem clear_marks (w:World) (g i n c:Nat) (ty:TypeId) (hi:i<n) (hc:∀k,k<n*3→(w.cell? ⟨g,k,none⟩).isSome=true) (hf:∀o,w.frozen? ⟨g,o,none⟩=false):
  (Builtin.clear_ #[90] ty #[.slice (some ⟨g,i*3,none⟩) (n-i) (c-i)]).run Tryz.prog w=.ok (.tuple #[]) (w.setCells g (i*3) (Builtin.zeroCells zM.cells (n-i)).toList):=
 run_clear w 90 96 ty zM Tryz.underlying90 zero_mark (by decide) (by intro u hu;simp[zM,Value.cells] at hu;rcases hu with rfl | rfl<;>rfl) g (i*3) (n-i) (c-i) (by omega)
  (fun j hj=>hc _ (by have:zM.cells.size=3:=rfl;rw[this] at hj;omega)) hf
theorem deleteFunc_any (W0 w:World) (g n c:Nat) (l:List Mk) (A B:Nat) (p:ByteArray) (v:Value) (s:List Dt) (hl:l.length=n) (hcs:∀j,j<l.length→MAt w g 0 j (l.getD j none1)) (hfr:∀o,w.frozen? ⟨g,o,none⟩=false) (hg:W0.heap.size≤g) (hgw:g<w.heap.size) (hb0:Below W0.heap.size W0 w) (hn:n≤1048576) (hnc:n≤c) (hcm:c≤maxLen) (hA:W0.cell? ⟨A,0,none⟩=some (.string p)) (hB:W0.cell? ⟨B,0,none⟩=some v) (hs:DtsAt W0 v s) (hsn:s.length≤1048576):
  Calls Tryz.prog 182 #[.slice (some ⟨g,0,none⟩) n c,.func (.func 183) #[] #[.pointer (some ⟨A,0,none⟩),.pointer (some ⟨B,0,none⟩)]] w fun e w'=>∃v',e=.returned v'∧MksNew W0.heap.size w' v' (stays p s l)∧Below W0.heap.size W0 w':=by
 have C:=indexFunc_any (some ⟨g,0,none⟩) n c l A B p v s w hl (Or.inr ⟨g,0,rfl,hcs⟩) hn (keep_cell hb0 hA) (keep_cell hb0 hB) (hs.below hb0) hsn
 have HC:Hid (∀wr,Below W0.heap.size W0 wr→∀sx x1 x2,Calls Tryz.prog 183 #[.agg #[.string sx,.int .i64 x1,.int .i64 x2],.pointer (some ⟨A,0,none⟩),.pointer (some ⟨B,0,none⟩)] wr fun e w'=>e=.returned (.bool (gone p s (sx,(x1,x2))))∧Below wr.heap.size wr w'):=
  fun wr hb sx x1 x2=>closure_any sx x1 x2 A B p v s wr (keep_cell hb hA) (keep_cell hb hB) (hs.below hb) hsn
 have HL:=z9 hl
 have HR:Hid (Row w g n 0 0 [] l):=⟨l,hl,hcs,rfl,rfl⟩
 have HF:=z9 hfr
 have HB0:=z9 hb0
 have HGL:Hid (W0.heap.size≤g∧g<w.heap.size):=⟨hg,hgw⟩
 have HCM:=z9 hcm
 have hcm2:c≤9223372036854775807:=by unfold maxLen at hcm;omega
 clear hl hcs hfr hg hgw hb0 hA hB hs hsn hcm
 go_enter Tryz.func182,Tryz.ntmps182
 go_wp2_with fail
 refine C.mono ?_
 rintro e w1 ⟨⟨z,rfl,hz⟩,hb1⟩
 have HB1:=z9 (HB0.out.trans (hb1.mono HB0.out.size))
 have HR1:=z9 (HR.out.below hb1)
 have HF1:Hid (∀o,w1.frozen? ⟨g,o,none⟩=false):=fun o=>by
  have:=HF.out o
  unfold World.frozen? at this ⊢
  rw[hb1.block g HGL.out.2];exact this
 have HGL1:Hid (W0.heap.size≤g∧g<w1.heap.size):=⟨HGL.out.1,Nat.lt_of_lt_of_le HGL.out.2 hb1.size⟩
 clear hb1 C HR HF HB0 HGL
 rcases hz with⟨rfl,hz⟩ | ⟨k,hk,rfl,hk1,hk2⟩
 ·have HS:=z9 (stays_all hz)
  clear hz
  go_wp2_with fail
  go_ret
  refine⟨_,rfl, ?_,HB1.out⟩
  rw[HS.out]
  obtain⟨R,h1,h2,_,h4⟩:=HR1.out
  have e:R=l:=by simpa using h4
  subst e
  exact⟨⟨some ⟨g,0,none⟩,c,by rw[HL.out];rfl,Or.inr ⟨g,0,rfl,h2⟩,by rw[HL.out];exact hnc,HCM.out,fun h=>by cases h⟩,La.Lies.at HGL1.out.1⟩
 ·have hkn:k<n:=by rw[←HL.out];exact hk
  have hkb:((k:Int) == -1)=false:=by rw[beq_eq_false_iff_ne];omega
  have HR2:Hid (Row w1 g n k (k+1) (stays p s (l.take (k+1))) l):=by
   have e1:stays p s (l.take (k+1))=l.take k:=by
    rw[stays_next hk,hk1,if_pos rfl]
    refine stays_all fun j hj=> ?_
    rw[List.length_take] at hj
    have:=hk2 j (by omega)
    rwa [List.getD_eq_getElem?_getD,List.getElem?_take_of_lt (by omega),←List.getD_eq_getElem?_getD]
   rw[e1]
   obtain⟨R,h1,h2,_,h4⟩:=HR1.out
   have e:R=l:=by simpa using h4
   subst e
   exact⟨R,h1,h2,rfl,rfl⟩
  clear hk hk1 hk2 HR1
  go_wp2_with fail
  go_loopw [5,6] (fun vi vj wr=>∃(i j:Nat),i<j∧j≤n∧vi=.int .i64 i∧vj=.int .i64 j∧Hid ((stays p s (l.take j)).length=i∧Row wr g n i j (stays p s (l.take j)) l)∧Hid (∀o,wr.frozen? ⟨g,o,none⟩=false)∧Hid (Below W0.heap.size W0 wr)∧Hid (W0.heap.size≤g∧g<wr.heap.size)) (fun _ vj _=>n-(intOf vj).toNat)
  case atStart=>exact⟨k,k+1,by omega,by omega,rfl,by go_num,⟨by obtain⟨R,h1,_,h3,_⟩:=HR2.out;rw[←h3,List.length_take];omega,HR2.out⟩,HF1,HB1,HGL1⟩
  case round=>
   clear HR2 HF1 HB1 HGL1
   obtain⟨i,j,hij,hjn,rfl,rfl,HRR,HF,HB,HGL⟩:=hrel
   by_cases hlt:j<n
   ·have hltz:(j:Int)<n:=by omega
    have ha:=HRR.out.2.at HL.out hlt
    obtain⟨x,hx⟩:∃x,x=l.getD j none1:=⟨_,rfl⟩
    rw[←hx] at ha
    have HX:=z9 hx
    have HSN:Hid (stays p s (l.take (j+1))=if gone p s x then stays p s (l.take j) else stays p s (l.take j)++[x]):=by
     unfold Hid;rw[stays_next (by rw[HL.out];exact hlt),←hx]
    obtain⟨sx,x1,x2⟩:=x
    obtain⟨a1,a2,a3⟩:=ha
    rw[Nat.zero_add] at a1 a2 a3
    simp only at a1 a2 a3
    clear hx
    have HBA:Hid (Below W0.heap.size W0 (wr.alloc (.cells #[.string sx,.int .i64 x1,.int .i64 x2] 96))):=HB.out.alloc HB.out.size _
    have C:=HC.out _ HBA.out sx x1 x2
    cases hgo:gone p s (sx,(x1,x2))
    ·rw[hgo] at C HSN
     have hin:i<n:=by omega
     have hinz:(i:Int)<n:=by omega
     clear hgo
     go_wp2_with fail
     refine C.mono ?_
     rintro e w2 ⟨rfl,hb2⟩
     have HB2:=z9 (HBA.out.trans (hb2.mono HBA.out.size))
     have hbw:Below wr.heap.size wr w2:=bel_new (Below.refl _ _) hb2
     obtain⟨d0,d1,d2⟩:=new_cell (x:=(sx,(x1,x2))) hb2
     simp only at d0 d1 d2
     have HR2:=z9 (HRR.out.2.below hbw)
     have HF2:Hid (∀o,w2.frozen? ⟨g,o,none⟩=false):=fun o=>by
      have:=HF.out o
      unfold World.frozen? at this ⊢
      rw[hbw.block g HGL.out.2];exact this
     have HGL2:Hid (W0.heap.size≤g∧g<w2.heap.size):=⟨HGL.out.1,Nat.lt_of_lt_of_le HGL.out.2 hbw.size⟩
     have HNE:=z9 (Nat.ne_of_lt HGL.out.2)
     obtain⟨y,b1,b2,b3⟩:=HR2.out.any hin
     rw[Nat.zero_add] at b1 b2 b3
     have f1:=HF2.out (i*3)
     have f2:=HF2.out (i*3+1)
     have f3:=HF2.out (i*3+2)
     have HP:Hid ((stays p s (l.take (j+1))).length=i+1∧Row (((w2.setCell ⟨g,i*3,none⟩ (.string sx)).setCell ⟨g,i*3+1,none⟩ (.int .i64 x1)).setCell ⟨g,i*3+2,none⟩ (.int .i64 x2)) g n (i+1) (j+1) (stays p s (l.take (j+1))) l):=by
      unfold Hid
      rw[HSN.out]
      exact⟨by simp[HRR.out.1],HR2.out.put (x:=(sx,(x1,x2))) hij hin HX.out⟩
     have HB3:Hid (Below W0.heap.size W0 (((w2.setCell ⟨g,i*3,none⟩ (.string sx)).setCell ⟨g,i*3+1,none⟩ (.int .i64 x1)).setCell ⟨g,i*3+2,none⟩ (.int .i64 x2))):=
      ((HB2.out.setCell (p:=⟨g,i*3,none⟩) HGL.out.1 _).setCell (p:=⟨g,i*3+1,none⟩) HGL.out.1 _).setCell (p:=⟨g,i*3+2,none⟩) HGL.out.1 _
     obtain⟨y1,hy1⟩:∃t,t=Value.string y.1:=⟨_,rfl⟩
     obtain⟨y2,hy2⟩:∃t,t=Value.int .i64 y.2.1:=⟨_,rfl⟩
     obtain⟨y3,hy3⟩:∃t,t=Value.int .i64 y.2.2:=⟨_,rfl⟩
     rw[←hy1] at b1
     rw[←hy2] at b2
     rw[←hy3] at b3
     clear hb2 hbw C a1 a2 a3 hy1 hy2 hy3 HR2 HRR HSN
     go_wp2_with fail
     go_roundw
     case rel=>exact⟨i+1,j+1,by omega,by omega,by go_num,by go_num,HP.out,fun o=>by simp only[World.frozen?_setCell];exact HF2.out o,HB3,⟨HGL2.out.1,by have:=HGL2.out.2;simpa using this⟩⟩
     case measure=>simp[intOf];omega
    ·rw[hgo] at C HSN
     clear hgo
     go_wp2_with fail
     refine C.mono ?_
     rintro e w2 ⟨rfl,hb2⟩
     have HB2:=z9 (HBA.out.trans (hb2.mono HBA.out.size))
     have hbw:Below wr.heap.size wr w2:=bel_new (Below.refl _ _) hb2
     have HR2:Hid ((stays p s (l.take (j+1))).length=i∧Row w2 g n i (j+1) (stays p s (l.take (j+1))) l):=by
      unfold Hid
      rw[HSN.out,if_pos (by first | rfl | trivial)]
      exact⟨HRR.out.1,(HRR.out.2.below hbw).skip⟩
     have HF2:Hid (∀o,w2.frozen? ⟨g,o,none⟩=false):=fun o=>by
      have:=HF.out o
      unfold World.frozen? at this ⊢
      rw[hbw.block g HGL.out.2];exact this
     have HGL2:Hid (W0.heap.size≤g∧g<w2.heap.size):=⟨HGL.out.1,Nat.lt_of_lt_of_le HGL.out.2 hbw.size⟩
     clear hb2 hbw C a1 a2 a3 HRR HSN
     go_wp2_with fail
     go_roundw
     case rel=>exact⟨i,j+1,by omega,by omega,rfl,by go_num,HR2.out,HF2,HB2,HGL2⟩
     case measure=>simp[intOf];omega
   ·obtain rfl:j=n:=by omega
    have hin:i<j:=hij
    have hiz:(i:Int)≤j:=by omega
    have hicz:(i:Int)≤c:=by omega
    have hci:¬c=i:=by omega
    have hcl:=fun ty=>clear_marks wr g i j c ty hin (cells_some fun x hx=>HRR.out.2.any hx) HF.out
    obtain⟨Z,hZ⟩:∃Z,Z=(Builtin.zeroCells zM.cells (j-i)).toList:=⟨_,rfl⟩
    rw[←hZ] at hcl
    have HB3:Hid (Below W0.heap.size W0 (wr.setCells g (i*3) Z)):=below_setCells HGL.out.1 _ _ _ HB.out
    have HM:Hid (MksAt (wr.setCells g (i*3) Z) (.slice (some ⟨g,0,none⟩) i c) (stays p s l)):=by
     obtain⟨e1,R,h1,h2,h3,_⟩:=HRR.out
     have hlt2:l.take j=l:=List.take_of_length_le (by rw[HL.out];exact Nat.le_refl _)
     rw[hlt2] at e1 h3
     refine⟨some ⟨g,0,none⟩,c,by rw[e1],Or.inr ⟨g,0,rfl,fun x hx=> ?_⟩,by omega,HCM.out,fun h=>by cases h⟩
     rw[e1] at hx
     have e2:(stays p s l).getD x none1=R.getD x none1:=by
      rw[←h3,List.getD_eq_getElem?_getD,List.getElem?_take_of_lt hx,←List.getD_eq_getElem?_getD]
     rw[e2]
     obtain⟨c1,c2,c3⟩:=h2 x (by omega)
     refine⟨?_, ?_, ?_⟩
     ·rw[World.cell?_setCells_out _ _ _ _ _ (fun _ _=>Or.inl (by simp only[];omega))];exact c1
     ·rw[World.cell?_setCells_out _ _ _ _ _ (fun _ _=>Or.inl (by simp only[];omega))];exact c2
     ·rw[World.cell?_setCells_out _ _ _ _ _ (fun _ _=>Or.inl (by simp only[];omega))];exact c3
    clear hZ HRR
    go_wp2_with fail
    go_ret
    exact⟨_,rfl,⟨HM.out,La.Lies.at HGL.out.1⟩,HB3.out⟩
end Nm
end Go.Proofs.YtlmdchpbpgcfmaaGreatDoor
/- What marks.Join answers where nothing is wrong. -/
namespace Go.Proofs.YtlmdchpbpgcfmaaGreatDoor
namespace Nn
open Go.ChangeShapes Go.WideShapes Go.ChangeAt Go.RowKit Cm Ka Kb Na Nb Nc Nd Nse Nf Nj Nk Nl Nm
open La (bel bel_drew errV_zero errV_ne own_ge own_grow own_below)
theorem clone_none (w:World):
  Calls Tryz.prog 85 #[.slice none 0 0] w fun e w'=>e=.returned (.slice none 0 0)∧w'=w:=by
 have heq:∀(w:World),Sem.run Tryz.prog (binOp .eql 90 (.slice none 0 0) (.slice none 0 0)) w=.ok (.bool true) w:=fun _=>by kernel_rfl
 go_enter Tryz.func85,Tryz.ntmps85
 go_wp2
 go_ret
 exact⟨rfl,rfl⟩
theorem deleteFunc_none (A B:Nat) (p:ByteArray) (v:Value) (s:List Dt) (w:World) (hA:w.cell? ⟨A,0,none⟩=some (.string p)) (hB:w.cell? ⟨B,0,none⟩=some v) (hs:DtsAt w v s) (hsn:s.length≤1048576):
  Calls Tryz.prog 182 #[.slice none 0 0,.func (.func 183) #[] #[.pointer (some ⟨A,0,none⟩),.pointer (some ⟨B,0,none⟩)]] w fun e w'=>e=.returned (.slice none 0 0)∧Below w.heap.size w w':=by
 have C:=indexFunc_any none 0 0 [] A B p v s w rfl (Or.inl rfl) (by omega) hA hB hs hsn
 clear hA hB hs hsn
 go_enter Tryz.func182,Tryz.ntmps182
 go_wp2_with fail
 refine C.mono ?_
 rintro e w1 ⟨⟨z,rfl,hz⟩,hb1⟩
 have HB1:=z9 hb1
 rcases hz with⟨rfl,_⟩ | ⟨k,hk,_⟩
 ·clear hb1 C
  go_wp2_with fail
  go_ret
  exact⟨rfl,HB1.out⟩
 ·simp at hk
/- a clone, and what stays of it -/
theorem cloned {w w1:World} {v:Value} {n:Nat} {l:List Mk} (ho:w1.ownsRow w.heap.size 96 3 v n (flat l)) (hb:Below w.heap.size w w1) (A B:Nat) (p:ByteArray) (vs:Value) (s:List Dt) (hA:w.cell? ⟨A,0,none⟩=some (.string p)) (hB:w.cell? ⟨B,0,none⟩=some vs) (hs:DtsAt w vs s) (hsn:s.length≤1048576) (hn:n≤1048576):
  Calls Tryz.prog 182 #[v,.func (.func 183) #[] #[.pointer (some ⟨A,0,none⟩),.pointer (some ⟨B,0,none⟩)]] w1 fun e w'=>∃v',e=.returned v'∧MksNew w.heap.size w' v' (stays p s l)∧Below w.heap.size w w':=by
 obtain⟨hl,q,c,rfl,hlf⟩:=own_marks ho
 rcases ho.2 with⟨e,e0⟩ | ⟨g,cap,cur,e,hg,hcur,h3,h4,_⟩
 ·injection e with e1 e2 e3
  subst e1 e2 e3
  have hl0:l=[]:=List.eq_nil_of_length_eq_zero hl
  subst hl0
  refine(deleteFunc_none A B p vs s w1 (keep_cell hb hA) (keep_cell hb hB) (hs.below hb) hsn).mono ?_
  rintro e w' ⟨rfl,hb2⟩
  exact⟨_,rfl,MksNew.nil _ _,bel hb hb2⟩
 ·injection e with e1 e2 e3
  subst e1 e3
  have hgw:g<w1.heap.size:=by
   rcases Nat.lt_or_ge g w1.heap.size with e | e
   ·exact e
   ·rw[Array.getElem?_eq_none e] at hcur;cases hcur
  have hcs:∀j,j<l.length→MAt w1 g 0 j (l.getD j none1):=by
   rcases hlf with h0 | ⟨b,o,hp,hc⟩
   ·subst h0;intro j hj;simp at hj
   ·injection hp with hp
    injection hp with hp1 hp2
    subst hp1 hp2
    exact hc
  exact deleteFunc_any w w1 g n c l A B p vs s hl hcs (fun o=>by simp[World.frozen?,hcur]) hg hgw hb hn h3 h4 hA hB hs hsn
theorem join_loc (v:Value) (l:List Mk) (p:ByteArray) (vs:Value) (s:List Dt) (w:World) (h:MksAt w v l) (hs:∀x ∈ l,x.1.size≤maxLen) (hp:p.size≤maxLen) (hd:DtsAt w vs s) (h0:joinE l p s=0):
  Calls Tryz.prog 154 #[v,.string p,vs] w fun e w'=>∃v',e=.returned (.tuple #[v',.nilIface])∧MksNew w.heap.size w' v' (without l p s)∧Below w.heap.size w w':=by
 obtain⟨j1,j2,j3⟩:=joinE_zero.1 h0
 obtain⟨m1,_⟩:=seenE_zero.1 j1
 obtain⟨hl40,_,_⟩:=marksE_zero.1 m1
 have hb1:Below w.heap.size w ((w.alloc (.cells #[.string p] 9)).alloc (.cells #[vs] 73)):=((Below.refl _ w).alloc (Nat.le_refl _) _).alloc (by simp) _
 have C:=checkMWith_any v l p _ (h.below hb1) hs hp
 rw[j1,errV_zero] at C
 have HC2:Hid (∀w2,Below w.heap.size w w2→Calls Tryz.prog 177 #[vs] w2 fun e w'=>e=.returned .nilIface∧Below w2.heap.size w2 w'):=fun w2 hb=>by
  have:=checkSeen_any vs s w2 (hd.below hb)
  rw[sawE_zero j2 j3,errV_zero] at this;exact this
 have HCL:Hid (∀w2,Below w.heap.size w w2→Calls Tryz.prog 85 #[v] w2 fun e w'=>∃v',e=.returned v'∧w'.ownsRow w2.heap.size 96 3 v' l.length (flat l)∧Below w2.heap.size w2 w'):=fun w2 hb=>by
  have h2:=h.below hb
  obtain⟨q,c,rfl,hlf,hc,hcm,hqc⟩:=h2
  cases q with
  | none=>
   have hc0:=hqc rfl
   subst hc0
   have hl0:l=[]:=List.eq_nil_of_length_eq_zero (by omega)
   subst hl0
   refine(clone_none w2).mono ?_
   rintro e w' ⟨rfl,rfl⟩
   exact⟨_,rfl,World.ownsRow_nil _ _ _ _,Below.refl _ _⟩
  | some ad=>
   refine clone_any ad l.length c l w2 rfl (by omega) (fun j u hu=> ?_)
   rcases hlf with e0 | ⟨b,o,hp2,hcs⟩
   ·subst e0;simp[flat] at hu
   ·injection hp2 with hp2
    subst hp2
    rw[Addr.add_lit];exact at_flat hcs j u hu
 have HDF:Hid (∀w2 w3 v3,Below w.heap.size w w2→w2.cell? ⟨w.heap.size,0,none⟩=some (.string p)→w2.cell? ⟨w.heap.size+1,0,none⟩=some vs→w3.ownsRow w2.heap.size 96 3 v3 l.length (flat l)→Below w2.heap.size w2 w3→Calls Tryz.prog 182 #[v3,.func (.func 183) #[] #[.pointer (some ⟨w.heap.size,0,none⟩),.pointer (some ⟨w.heap.size+1,0,none⟩)]] w3 fun e w'=>∃v',e=.returned v'∧MksNew w2.heap.size w' v' (stays p s l)∧Below w2.heap.size w2 w'):=
  fun w2 w3 v3 hb hA hB ho hb3=>cloned ho hb3 _ _ p vs s hA hB (hd.below hb) (by omega) (by omega)
 have HST:Hid (without l p s=stays p s l):=rfl
 have HW0:Hid (∀w2,Below ((w.alloc (.cells #[.string p] 9)).alloc (.cells #[vs] 73)).heap.size ((w.alloc (.cells #[.string p] 9)).alloc (.cells #[vs] 73)) w2→w2.cell? ⟨w.heap.size,0,none⟩=some (.string p)∧w2.cell? ⟨w.heap.size+1,0,none⟩=some vs):=fun w2 hb=>by
  have e1:((w.alloc (.cells #[.string p] 9)).alloc (.cells #[vs] 73)).heap[w.heap.size]? =some (.cells #[.string p] 9):=by
   have:=heap_alloc_old (w.alloc (.cells #[.string p] 9)) (.cells #[vs] 73) (show w.heap.size<_ by simp)
   exact this.trans (heap_alloc_new w _)
  have e2:((w.alloc (.cells #[.string p] 9)).alloc (.cells #[vs] 73)).heap[w.heap.size+1]? =some (.cells #[vs] 73):=by
   have:=heap_alloc_new (w.alloc (.cells #[.string p] 9)) (.cells #[vs] 73)
   rwa [show(w.alloc (.cells #[.string p] 9)).heap.size=w.heap.size+1 by simp] at this
  refine⟨keep_cell hb ?_,keep_cell hb ?_⟩
  ·simp only[World.cell?,e1];rfl
  ·simp only[World.cell?,e2];rfl
 have HB1:=z9 hb1
 obtain⟨q,c,rfl,_⟩:=h
 obtain⟨qs,cs,rfl,_⟩:=hd
 obtain⟨n,hn⟩:∃n,n=l.length:=⟨_,rfl⟩
 obtain⟨m,hm⟩:∃m,m=s.length:=⟨_,rfl⟩
 rw[←hn] at C HCL
 rw[←hm] at C HC2 HDF HW0 HB1
 rw[←hn,←hm]
 rw[←hn] at HDF
 clear hs hp h0 j1 j2 j3 m1 hl40 hb1 hn hm
 go_enter Tryz.func154,Tryz.ntmps154
 go_wp2_with fail
 refine C.mono ?_
 rintro e w2 ⟨rfl,hb2⟩
 have HB2:=z9 (bel HB1.out hb2)
 obtain⟨d0,d1⟩:=HW0.out w2 hb2
 clear hb2 C
 have C2:=HC2.out w2 HB2.out
 go_wp2_with fail
 refine C2.mono ?_
 rintro e w3 ⟨rfl,hb3⟩
 have HB3:=z9 (bel HB2.out hb3)
 have HE:Hid (w3.cell? ⟨w.heap.size,0,none⟩=some (.string p)∧w3.cell? ⟨w.heap.size+1,0,none⟩=some (.slice qs m cs)):=⟨keep_cell hb3 d0,keep_cell hb3 d1⟩
 clear hb3 C2 d0 d1
 have C3:=HCL.out w3 HB3.out
 go_wp2_with fail
 refine C3.mono ?_
 rintro e w4 ⟨v4,rfl,ho4,hb4⟩
 have C4:=HDF.out w3 w4 v4 HB3.out HE.out.1 HE.out.2 ho4 hb4
 clear C3 ho4 hb4
 go_wp2_with fail
 refine C4.mono ?_
 rintro e w5 ⟨v5,rfl,hk5,hb5⟩
 have HB5:=z9 (bel HB3.out hb5)
 have HK5:=z9 (hk5.mono HB3.out.size)
 clear C4 hk5 hb5
 go_wp2_with fail
 go_ret2
 exact⟨_,rfl,by rw[HST.out];exact HK5.out,HB5.out⟩
end Nn
end Go.Proofs.YtlmdchpbpgcfmaaGreatDoor
/- When two rows of marks are the same, and whether a dot is in a list. -/
namespace Go.Proofs.YtlmdchpbpgcfmaaGreatDoor
namespace Np
open Go.ChangeShapes Go.WideShapes Go.ChangeAt Go.RowKit Cm Ka Kb Na Nb Nc Nd Nj Nk
open La (bel bel_drew errV_zero errV_ne own_ge own_grow own_below)
theorem mark_eqs (s t:ByteArray) (n m a b:Int) (w:World):(Op.equalIn 10000 96 (.agg #[.string s,.int .i64 n,.int .i64 a]) (.agg #[.string t,.int .i64 m,.int .i64 b])).run Tryz.prog w=.ok (decide (((s,(n,a)):Mk)=(t,(m,b)))) w:=by
 have u3:=Tryz.underlying3
 have a3:=Tryz.isAgg3
 have z3:=Tryz.sizeOf3
 have u9:=Tryz.underlying9
 have a9:=Tryz.isAgg9
 have z9:=Tryz.sizeOf9
 have a4:=Tryz.isAgg72
 have z4:=Tryz.sizeOf72
 have hS:Tryz.prog.underlying 96=some (.struct (Tryz.prog.fieldsOf 96)):=by kernel_rfl
 have hp:Tryz.prog.stoodInHeld 96=false:=by kernel_rfl
 have hp2:Tryz.prog.stoodInHeld 72=false:=by kernel_rfl
 rw[show(10000:Nat)=9999+1 from rfl,run_equalIn_agg w 9999 96 _ _ hS hp]
 simp only[Program.fieldsOf,Tryz.underlying96]
 rw[mark_same]
 clear hS
 go_simp
 by_cases h1:s.toList=t.toList<;>by_cases h2:n=m<;>by_cases h3:a=b<;>simp[h1,h2,h3]
theorem eql_mark (s t:ByteArray) (n m a b:Int) (w:World):(binOp .eql 96 (.agg #[.string s,.int .i64 n,.int .i64 a]) (.agg #[.string t,.int .i64 m,.int .i64 b])).run Tryz.prog w=.ok (.bool (decide (((s,(n,a)):Mk)=(t,(m,b))))) w:=by
 rw[run_eql_struct,mark_eqs];rfl
/- the reference: is a dot in a list? -/
theorem in_any (v:Value) (l:List Dt) (p1 p2:Int) (w:World) (h:DtsAt w v l) (hn:l.length≤1048576):
  Calls Tryz.prog 108 #[v,.agg #[.int .i64 p1,.int .i64 p2]] w fun e w'=>e=.returned (.bool (decide ((p1,p2) ∈ l)))∧Below w.heap.size w w':=by
 obtain⟨q,c,rfl,hdi,_⟩:=h
 obtain⟨n,hnn⟩:∃n,l.length=n:=⟨_,rfl⟩
 rw[hnn] at hn
 rw[hnn]
 have HL:=z9 hnn
 have HI:=z9 hdi
 have HB0:Hid (Below w.heap.size w (w.alloc (.cells #[.int .i64 p1,.int .i64 p2] 72))):=(Below.refl _ w).alloc (Nat.le_refl _) _
 have HX1:Hid ((w.alloc (.cells #[.int .i64 p1,.int .i64 p2] 72)).cell? ⟨w.heap.size,0,none⟩=some (.int .i64 p1)∧(w.alloc (.cells #[.int .i64 p1,.int .i64 p2] 72)).cell? ⟨w.heap.size,1,none⟩=some (.int .i64 p2)):=new_cellD (x:=(p1,p2)) (Below.refl _ _)
 clear hnn hdi
 go_enter Tryz.func108,Tryz.ntmps108
 go_wp2
 go_loopw [5] (fun vi wr=>∃(k:Nat),k≤n∧vi=.int .i64 k∧Hid (∀j,j<k→l.getD j noneD≠(p1,p2))∧Hid (Below w.heap.size w wr)∧Hid (wr.cell? ⟨w.heap.size,0,none⟩=some (.int .i64 p1)∧wr.cell? ⟨w.heap.size,1,none⟩=some (.int .i64 p2))) (fun vi _=>n-(intOf vi).toNat)
 case atStart=>exact⟨0,by omega,rfl,fun j hj=>absurd hj (by omega),HB0,HX1⟩
 case round=>
  obtain⟨k,hk,rfl,H1,HB,HX0⟩:=hrel
  by_cases hlt:k<n
  ·have hltz:(k:Int)<n:=by omega
   obtain⟨b,o,rfl,hc⟩:=HI.out.some (by intro e;have:=HL.out;rw[e] at this;simp at this;omega)
   have hkl:k<l.length:=by rw[HL.out];exact hlt
   have ha:=(hc k hkl).below HB.out (hc k hkl).lt
   obtain⟨x,hx⟩:∃x,x=l.getD k noneD:=⟨_,rfl⟩
   rw[←hx] at ha
   have HX:=z9 hx
   obtain⟨x1,x2⟩:=x
   obtain⟨a1,a2⟩:=ha
   simp only at a1 a2
   obtain⟨d0,d1⟩:=HX0.out
   have hq:∀w,(binOp .eql 72 (.agg #[.int .i64 x1,.int .i64 x2]) (.agg #[.int .i64 p1,.int .i64 p2])).run Tryz.prog w=.ok (.bool (decide (((x1,x2):Dt)=(p1,p2)))) w:=fun w=>eql_dot x1 p1 x2 p2 w
   have hg:Tryz.prog.eqGuardType Tryz.prog.depth 72=false:=by kernel_rfl
   clear hc hx
   by_cases hxy:((x1,x2):Dt)=(p1,p2)
   ·rw[decide_eq_true hxy] at hq
    have HM:Hid (decide ((p1,p2) ∈ l)=true):=by
     rw[Hid,decide_eq_true_eq,←hxy,HX.out];exact getD_mem hkl
    clear hxy
    go_wp2
    go_quiet (fail)
    go_wp2
    go_ret
    exact⟨by rw[HM.out];rfl,bel_drew HB.out _⟩
   ·rw[decide_eq_false hxy] at hq
    have H3:Hid (∀j,j<k+1→l.getD j noneD≠(p1,p2)):=by
     intro j hj
     rcases Nat.lt_succ_iff_lt_or_eq.1 hj with h | rfl
     ·exact H1.out j h
     ·rw[←HX.out];exact fun e=>hxy e
    clear hxy
    go_wp2
    go_quiet (fail)
    go_wp2
    go_roundw
    case rel=>exact⟨k+1,by omega,by go_num,H3,bel_drew HB.out _,HX0.out⟩
    case measure=>simp[intOf];omega
  ·obtain rfl:k=n:=by omega
   have HM:Hid (decide ((p1,p2) ∈ l)=false):=by
    rw[Hid,decide_eq_false_iff_not]
    intro h
    obtain⟨j,hj,e⟩:=List.mem_iff_getElem.1 h
    have:=H1.out j (by rw[←HL.out];exact hj)
    rw[List.getD_eq_getElem?_getD,List.getElem?_eq_getElem hj] at this
    exact absurd e this
   go_wp2
   go_ret
   exact⟨by rw[HM.out];rfl,HB.out⟩
end Np
end Go.Proofs.YtlmdchpbpgcfmaaGreatDoor
