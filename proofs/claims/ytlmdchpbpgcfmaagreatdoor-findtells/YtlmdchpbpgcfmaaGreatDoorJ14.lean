import Derived.Test.YtlmdchpbpgcfmaaGreatDoorJ9
import Derived.OwnWalk
import Derived.Laws.OwnMore
import Derived.RegionTactic
import Derived.BigRegion
import Derived.Deep.QuietTactic
import Derived.BigQuiet
import Derived.Test.YtlmdchpbpgcfmaaGreatDoorJ2
import Derived.LaidEql
import Derived.Stop.Asserts
import Derived.RowKitTokens
set_option linter.unusedVariables false
set_option maxRecDepth 100000
set_option maxHeartbeats 8000000
/- What dot.checkBoth, dot.Merge and leafsame.Ints answer. -/
namespace Go.Proofs.YtlmdchpbpgcfmaaGreatDoor
namespace Dg
open Go.ChangeShapes Go.WideShapes Go.ChangeAt Go.RowKit Za Db
/- a row of the call's own that is filled, one cell after the other -/
def Fill (w:World) (g n:Nat) (F:Nat→Value) (k:Nat) (wr:World):Prop:=
 (∀j,j<k→wr.cell? ⟨g,j,none⟩=some (F j))∧(∀j,j<n→∃v,wr.cell? ⟨g,j,none⟩=some v)∧(∀j,wr.frozen? ⟨g,j,none⟩=false)∧Below w.heap.size w wr∧w.heap.size≤g
theorem Fill.start {w w1:World} {t:TypeId} {F:Nat→Value} {n cap:Nat} {g:Nat} {xs:List Value} (hg:w.heap.size≤g) (h:w1.ownsRow g t 1 (.slice (some ⟨g,0,none⟩) n cap) n xs) (hb:Below w.heap.size w w1):Fill w g n F 0 w1:=by
 refine⟨fun j hj=>absurd hj (by omega), ?_, ?_,hb,hg⟩
 ·intro j hj
  rcases h.2 with⟨e,_⟩ | ⟨g',cap',cur,e,_,h2,h3,h4,h5,h6⟩
  ·cases e
  ·injection e with e1
   injection e1 with e1
   injection e1 with e1
   subst e1
   refine⟨cur[j]'(by omega), ?_⟩
   simp only[World.cell?,h2]
   simp[show j<cur.size by omega]
 ·intro j
  rcases h.2 with⟨e,_⟩ | ⟨g',cap',cur,e,_,h2,h3,h4,h5,h6⟩
  ·cases e
  ·injection e with e1
   injection e1 with e1
   injection e1 with e1
   subst e1
   simp[World.frozen?,h2]
theorem Fill.step {w wr:World} {g n k:Nat} {F:Nat→Value} (h:Fill w g n F k wr) (hk:k<n) (v:Value) (hv:v=F k):Fill w g n F (k+1) (wr.setCell ⟨g,k,none⟩ v):=by
 obtain⟨h1,h2,h3,h4,h5⟩:=h
 refine⟨fun j hj=> ?_,fun j hj=> ?_,fun j=> ?_,h4.setCell (p:=⟨g,k,none⟩) h5 _,h5⟩
 ·by_cases e:j=k
  ·subst e
   obtain⟨u,hu⟩:=h2 j hk
   rw[World.cell?_setCell_same _ _ _ hu,hv]
  ·rw[World.cell?_setCell_other _ _ _ _ (by intro e2;injection e2;omega)]
   exact h1 j (by omega)
 ·obtain⟨u,hu⟩:=h2 j hj
  exact cell?_setCell_some hu
 ·rw[World.frozen?_setCell];exact h3 j
theorem Fill.below {w wr w2:World} {g n k:Nat} {F:Nat→Value} (h:Fill w g n F k wr) (hg:g<wr.heap.size) (hb:Below wr.heap.size wr w2):Fill w g n F k w2:=by
 obtain⟨h1,h2,h3,h4,h5⟩:=h
 refine⟨fun j hj=> ?_,fun j hj=> ?_,fun j=> ?_,bel h4 hb,h5⟩
 ·rw[hb.cell (p:=⟨g,j,none⟩) hg];exact h1 j hj
 ·rw[hb.cell (p:=⟨g,j,none⟩) hg];exact h2 j hj
 ·rw[hb.frozen (p:=⟨g,j,none⟩) hg];exact h3 j
theorem Fill.drew {w wr:World} {g n k:Nat} {F:Nat→Value} (h:Fill w g n F k wr) (q:Nat):Fill w g n F k (wr.drewN q):=
 ⟨h.1,h.2.1,h.2.2.1,bel_drew h.2.2.2.1 q,h.2.2.2.2⟩
theorem Fill.lt {w wr:World} {g n k:Nat} {F:Nat→Value} (h:Fill w g n F k wr) (hn:0<n):g<wr.heap.size:=by
 obtain⟨v,hv⟩:=h.2.1 0 hn
 exact World.block_lt_of_cell? _ _ hv
theorem ints_any (p q:Option Addr) (n m c d:Nat) (a b:List Int) (w:World) (ha:a.length=n) (hb:b.length=m) (hn:n≤1048576) (h1:IntsIn w p a) (h2:IntsIn w q b):
  Calls Tryz.prog 23 #[.slice p n c,.slice q m d] w fun e w'=>e=.returned (.bool (a==b))∧Below w.heap.size w w':=by
 by_cases hnm:n=m
 ·subst hnm
  have HA:=z9 ha
  have HB:=z9 hb
  by_cases h0:n=0
  ·have HE:Hid ((a==b)=true):=by
    unfold Hid
    rw[List.eq_nil_of_length_eq_zero (ha.trans h0),List.eq_nil_of_length_eq_zero (hb.trans h0)];rfl
   subst h0
   clear ha hb h1 h2
   go_enter Tryz.func23,Tryz.ntmps23
   go_wp2
   go_loop [5] (fun v=>v=.int .i64 0) (fun _=>0)
   case atStart=>rfl
   case round=>
    obtain rfl:=hrel
    go_wp2
    go_ret
    exact⟨by rw[HE.out];rfl,Below.refl _ _⟩
  ·obtain⟨b1,o1,rfl,c1⟩:=h1.some (by rintro rfl;exact h0 ha.symm)
   obtain⟨b2,o2,rfl,c2⟩:=h2.some (by rintro rfl;exact h0 hb.symm)
   have C1:Hid (∀j,j<n→w.cell? ⟨b1,o1+j,none⟩=some (.int .i64 (a.getD j 0))):=fun j hj=>c1 j (by omega)
   have C2:Hid (∀j,j<n→w.cell? ⟨b2,o2+j,none⟩=some (.int .i64 (b.getD j 0))):=fun j hj=>c2 j (by omega)
   clear ha hb h1 h2 c1 c2 h0
   go_enter Tryz.func23,Tryz.ntmps23
   go_wp2
   go_loopw [5] (fun v wr=>∃k:Nat,k≤n∧v=.int .i64 k∧Hid (∀j,j<k→a.getD j 0=b.getD j 0)∧Below w.heap.size w wr) (fun v _=>n-(intOf v).toNat)
   case atStart=>exact⟨0,by omega,rfl,fun j hj=>absurd hj (by omega),Below.refl _ _⟩
   case round=>
    obtain⟨k,hk,rfl,HK,hbel⟩:=hrel
    have HBE:=z9 hbel
    clear hbel
    by_cases hlt:k<n
    ·have hltz:(k:Int)<n:=by omega
     have e1:=C1.out k hlt
     have e2:=C2.out k hlt
     obtain⟨x,hx⟩:∃x,x=a.getD k 0:=⟨_,rfl⟩
     obtain⟨y,hy⟩:∃y,y=b.getD k 0:=⟨_,rfl⟩
     rw[←hx] at e1
     rw[←hy] at e2
     have HX:=z9 hx
     have HY:=z9 hy
     clear hx hy
     have d1:wr.cell? ⟨b1,o1+k,none⟩=some (.int .i64 x):=(HBE.out.cell (World.block_lt_of_cell? _ _ e1)).trans e1
     have d2:wr.cell? ⟨b2,o2+k,none⟩=some (.int .i64 y):=(HBE.out.cell (World.block_lt_of_cell? _ _ e2)).trans e2
     clear e1 e2
     cases hxy:(x !=y)
     case false=>
      go_wp2
      go_quiet (fail)
      go_wp2
      go_roundw
      case rel=>exact⟨k+1,by omega,by go_num,fun j hj=>by
       rcases Nat.lt_succ_iff_lt_or_eq.1 hj with h | rfl
       ·exact HK.out j h
       ·rw[←HX.out,←HY.out];simpa using hxy,bel_drew HBE.out _⟩
      case measure=>simp[intOf];omega
     case true=>
      go_wp2
      go_quiet (fail)
      go_wp2
      go_ret
      refine⟨?_,bel_drew HBE.out _⟩
      refine ret_bool ?_
      cases he:(a==b)
      ·rfl
      ·have:a=b:=by simpa using he
       rw[HX.out,HY.out,this] at hxy
       simp at hxy
    ·obtain rfl:k=n:=by omega
     go_wp2
     go_ret
     refine⟨?_,HBE.out⟩
     refine ret_bool ?_
     have:a=b:=by
      apply List.ext_getElem?
      intro i
      by_cases hi:i<k
      ·have:=HK.out i hi
       rw[List.getD_eq_getElem?_getD,List.getD_eq_getElem?_getD,List.getElem?_eq_getElem (by rw[HA.out];exact hi),List.getElem?_eq_getElem (by rw[HB.out];exact hi)] at this
       rw[List.getElem?_eq_getElem (by rw[HA.out];exact hi),List.getElem?_eq_getElem (by rw[HB.out];exact hi)]
       simpa using this
      ·rw[List.getElem?_eq_none (by rw[HA.out];omega),List.getElem?_eq_none (by rw[HB.out];omega)]
     rw[this];simp
 ·have hnm':((n:Int)==(m:Int))=false:=by simp;omega
  have HE:Hid ((a==b)=false):=by
   unfold Hid
   cases he:(a==b)
   ·rfl
   ·have:a=b:=by simpa using he
    subst this;omega
  clear ha hb h1 h2
  go_enter Tryz.func23,Tryz.ntmps23
  go_wp2
  go_ret
  exact⟨by rw[HE.out];rfl,Below.refl _ _⟩
end Dg
end Go.Proofs.YtlmdchpbpgcfmaaGreatDoor
/- What plain.Told answers of no error, and of an error of package api that is not wrapped: Go's own text of errors.As is walked. -/
namespace Go.Proofs.YtlmdchpbpgcfmaaGreatDoor
namespace Kt
open Go.RowKit Go.Extern.Stop Go.Stop Go.Extern
/- the cell that the listed variable errors.errorType holds -/
def ET (w:World):Prop:=w.cell? ⟨0,0,none⟩=some (.iface 238 (.agg #[.pointer (some ⟨2,25,none⟩)]))
theorem valueOfP (t:Addr) (w:World):(ReflectliteValue.unpack (.iface 151 (.pointer (some t)))).run Tryz.prog w
  =.ok (.agg #[.pointer (some ⟨2,151,none⟩),.pointer (some ⟨w.heap.size,0,none⟩),.int .u64 150]) (w.alloc (.cells #[.pointer (some t)] 151)):=by kernel_rfl
theorem typeP (a:Addr) (w:World):(ReflectliteValue.methodAny (ReflectliteValue.valueError "reflectlite.Value.Type" 0) (fun t _ _ _=>ReflectliteType.toType t) #[.agg #[.pointer (some ⟨2,151,none⟩),.pointer (some a),.int .u64 150]]).run Tryz.prog w
  =.ok (.iface 238 (.agg #[.pointer (some ⟨2,151,none⟩)])) w:=by kernel_rfl
theorem methodKind (h:Value) (w:World):(Go.method 424 238 (.agg #[h]) "Kind").run Tryz.prog w=.ok (235,h) w:=by kernel_rfl
theorem kindP (w:World):((ReflectliteType.abiMethod fun t=>(fun a:Nat=>Value.int IntKind.u8 (a:Int)) <$> Rtype.kind t) #[.pointer (some ⟨2,151,none⟩)]).run Tryz.prog w=.ok (.int .u8 22) w:=by kernel_rfl
theorem kindE (w:World):((ReflectliteType.abiMethod fun t=>(fun a:Nat=>Value.int IntKind.u8 (a:Int)) <$> Rtype.kind t) #[.pointer (some ⟨2,84,none⟩)]).run Tryz.prog w=.ok (.int .u8 2) w:=by kernel_rfl
theorem partsP (a:Addr) (w:World):(ReflectliteValue.parts (.agg #[.pointer (some ⟨2,151,none⟩),.pointer (some a),.int .u64 150])).run Tryz.prog w=.ok (some (151,a,150)) w:=by kernel_rfl
theorem isNilP (a p:Addr) (W:World) (ha:W.cell? a=some (.pointer (some p))):
  (ReflectliteValue.method (ReflectliteValue.valueError "reflectlite.Value.IsNil" 0) ReflectliteValue.isNil #[.agg #[.pointer (some ⟨2,151,none⟩),.pointer (some a),.int .u64 150]]).run Tryz.prog W=.ok (.bool false) W:=by
 change (bind (ReflectliteValue.parts (.agg #[.pointer (some ⟨2,151,none⟩),.pointer (some a),.int .u64 150])) _:Sem Value).run Tryz.prog W=_
 simp only[Sem.run_bind,partsP,Result.andThen]
 simp[ReflectliteValue.isNil,loadVar,isAgg,underlying,Tryz.underlying151,ha,Result.andThen]
theorem methodElem (h:Value) (w:World):(Go.method 424 238 (.agg #[h]) "Elem").run Tryz.prog w=.ok (246,.agg #[h]) w:=by kernel_rfl
theorem methodImplements (h:Value) (w:World):(Go.method 424 238 (.agg #[h]) "Implements").run Tryz.prog w=.ok (247,.agg #[h]) w:=by kernel_rfl
theorem methodAssignableTo (h:Value) (w:World):(Go.method 424 238 (.agg #[h]) "AssignableTo").run Tryz.prog w=.ok (244,.agg #[h]) w:=by kernel_rfl
theorem elemP (w:World):(ReflectliteType.method ReflectliteType.elem #[.agg #[.pointer (some ⟨2,151,none⟩)]]).run Tryz.prog w=.ok (.iface 238 (.agg #[.pointer (some ⟨2,84,none⟩)])) w:=by kernel_rfl
theorem implementsE (w:World):(ReflectliteType.relation "Implements" ReflectliteType.implements_ #[.agg #[.pointer (some ⟨2,84,none⟩)],.iface 238 (.agg #[.pointer (some ⟨2,25,none⟩)])]).run Tryz.prog w=.ok (.bool true) w:=by kernel_rfl
theorem typeOfE (v:Value) (w:World):(ReflectliteType.typeOf #[.iface 84 v]).run Tryz.prog w=.ok (.iface 238 (.agg #[.pointer (some ⟨2,84,none⟩)])) w:=by kernel_rfl
theorem assignableE (w:World):(ReflectliteType.relation "AssignableTo" ReflectliteType.assignableTo #[.agg #[.pointer (some ⟨2,84,none⟩)],.iface 238 (.agg #[.pointer (some ⟨2,84,none⟩)])]).run Tryz.prog w=.ok (.bool true) w:=by kernel_rfl
theorem valueOfE (n:Int) (w:World):(ReflectliteValue.unpack (.iface 84 (.int .i64 n))).run Tryz.prog w
  =.ok (.agg #[.pointer (some ⟨2,84,none⟩),.pointer (some ⟨w.heap.size,0,none⟩),.int .u64 130]) (w.alloc (.cells #[.int .i64 n] 84)):=by kernel_rfl
theorem elemOfP (w:World):(Rtype.elem? 151).run Tryz.prog w=.ok (some 84) w:=by kernel_rfl
theorem mkE (p:Addr) (w:World):(ReflectliteValue.mk 84 p ReflectliteValue.flagAddr).run Tryz.prog w=.ok (.agg #[.pointer (some ⟨2,84,none⟩),.pointer (some p),.int .u64 386]) w:=by kernel_rfl
theorem elemV (a p:Addr) (W:World) (ha:W.cell? a=some (.pointer (some p))):
  (ReflectliteValue.method (ReflectliteValue.valueError "reflectlite.Value.Elem" 0) ReflectliteValue.elem #[.agg #[.pointer (some ⟨2,151,none⟩),.pointer (some a),.int .u64 150]]).run Tryz.prog W
   =.ok (.agg #[.pointer (some ⟨2,84,none⟩),.pointer (some p),.int .u64 386]) W:=by
 change (bind (ReflectliteValue.parts (.agg #[.pointer (some ⟨2,151,none⟩),.pointer (some a),.int .u64 150])) _:Sem Value).run Tryz.prog W=_
 simp only[Sem.run_bind,partsP,Result.andThen]
 simp[ReflectliteValue.elem,loadVar,isAgg,underlying,Tryz.underlying151,ha,Result.andThen,elemOfP,mkE]
theorem partsEa (a:Addr) (w:World):(ReflectliteValue.parts (.agg #[.pointer (some ⟨2,84,none⟩),.pointer (some a),.int .u64 386])).run Tryz.prog w=.ok (some (84,a,386)) w:=by kernel_rfl
theorem partsE (a:Addr) (w:World):(ReflectliteValue.parts (.agg #[.pointer (some ⟨2,84,none⟩),.pointer (some a),.int .u64 130])).run Tryz.prog w=.ok (some (84,a,130)) w:=by kernel_rfl
theorem directE (w:World):(Rtype.directlyAssignable 84 84).run Tryz.prog w=.ok true w:=by kernel_rfl
theorem setE (ta b:Addr) (n:Int) (old:Value) (W:World) (hb:W.cell? b=some (.int .i64 n)) (ht:W.cell? ta=some old) (hf:W.frozen? ta=false):
  (ReflectliteValue.set #[.agg #[.pointer (some ⟨2,84,none⟩),.pointer (some ta),.int .u64 386],.agg #[.pointer (some ⟨2,84,none⟩),.pointer (some b),.int .u64 130]]).run Tryz.prog W
   =.ok (.tuple #[]) (W.setCell ta (.int .i64 n)):=by
 change (bind (ReflectliteValue.parts (.agg #[.pointer (some ⟨2,84,none⟩),.pointer (some ta),.int .u64 386])) fun y=>bind (ReflectliteValue.parts (.agg #[.pointer (some ⟨2,84,none⟩),.pointer (some b),.int .u64 130])) _:Sem Value).run Tryz.prog W=_
 simp only[Sem.run_bind,partsEa,partsE,Result.andThen]
 simp[ReflectliteValue.flagAddr,loadVar,isAgg,underlying,Tryz.underlying84,hb,Result.andThen,directE,storeVar,Value.cells,storeCells,Addr.add]
 rw[run_store Tryz.prog W ta _ _ (by rfl)]
 simp[ht,hf]
theorem as_hit (n:Int) (t:Addr) (old:Value) (w:World) (hg:ET w) (ht0:w.cell? t=some old) (hf0:w.frozen? t=false):
  Calls Tryz.prog 87 #[.iface 84 (.int .i64 n),.iface 151 (.pointer (some t))] w fun ev w'=>ev=.returned (.bool true)∧w'=((((w.alloc (.cells #[.pointer (some t)] 151)).alloc (.cells #[.pointer (some ⟨2,151,none⟩),.pointer (some ⟨w.heap.size,0,none⟩),.int .u64 150] 197)).alloc (.cells #[.pointer (some ⟨2,151,none⟩),.pointer (some ⟨w.heap.size,0,none⟩),.int .u64 150] 197)).alloc (.cells #[.int .i64 n] 84)).setCell t (.int .i64 n):=by
 unfold ET at hg
 have h6:=@run_callFunc_extern Tryz.prog 130 _ (fun args=>ReflectliteValue.unpack (args.getD 0 (.tuple #[]))) Tryz.func130 (by kernel_rfl) (by kernel_rfl) (by kernel_rfl) (by kernel_rfl)
 have h7:=@run_callFunc_extern Tryz.prog 131 _ (ReflectliteValue.methodAny (ReflectliteValue.valueError "reflectlite.Value.Type" 0) (fun t _ _ _=>ReflectliteType.toType t)) Tryz.func131 (by kernel_rfl) (by kernel_rfl) (by kernel_rfl) (by kernel_rfl)
 have h8:=@run_callFunc_extern Tryz.prog 132 _ (ReflectliteValue.method (ReflectliteValue.valueError "reflectlite.Value.IsNil" 0) ReflectliteValue.isNil) Tryz.func132 (by kernel_rfl) (by kernel_rfl) (by kernel_rfl) (by kernel_rfl)
 have h27:=@run_callFunc_extern Tryz.prog 235 _ (ReflectliteType.abiMethod fun t=>do pure (.int .u8 (←Rtype.kind t))) Tryz.func235 (by kernel_rfl) (by kernel_rfl) (by kernel_rfl) (by kernel_rfl)
 have h37:=@run_callFunc_extern Tryz.prog 246 _ (ReflectliteType.method ReflectliteType.elem) Tryz.func246 (by kernel_rfl) (by kernel_rfl) (by kernel_rfl) (by kernel_rfl)
 have h38:=@run_callFunc_extern Tryz.prog 247 _ (ReflectliteType.relation "Implements" ReflectliteType.implements_) Tryz.func247 (by kernel_rfl) (by kernel_rfl) (by kernel_rfl) (by kernel_rfl)
 have h10:=@run_callFunc_extern Tryz.prog 167 _ ReflectliteType.typeOf Tryz.func167 (by kernel_rfl) (by kernel_rfl) (by kernel_rfl) (by kernel_rfl)
 have h35:=@run_callFunc_extern Tryz.prog 244 _ (ReflectliteType.relation "AssignableTo" ReflectliteType.assignableTo) Tryz.func244 (by kernel_rfl) (by kernel_rfl) (by kernel_rfl) (by kernel_rfl)
 have h11:=@run_callFunc_extern Tryz.prog 168 _ (ReflectliteValue.method (ReflectliteValue.valueError "reflectlite.Value.Elem" 0) ReflectliteValue.elem) Tryz.func168 (by kernel_rfl) (by kernel_rfl) (by kernel_rfl) (by kernel_rfl)
 have h12:=@run_callFunc_extern Tryz.prog 169 _ ReflectliteValue.set Tryz.func169 (by kernel_rfl) (by kernel_rfl) (by kernel_rfl) (by kernel_rfl)
 have tO:=typeOfE
 have mA:=methodAssignableTo
 have aE:=assignableE
 have vE:=valueOfE
 have f6:=valueOfP
 have f7:=typeP
 have mK:=methodKind
 have mE:=methodElem
 have mI:=methodImplements
 have kP:=kindP
 have kE:=kindE
 have eP:=elemP
 have iE:=implementsE
 have n8:=isNilP ⟨w.heap.size,0,none⟩ t ((w.alloc (.cells #[.pointer (some t)] 151)).alloc (.cells #[.pointer (some ⟨2,151,none⟩),.pointer (some ⟨w.heap.size,0,none⟩),.int .u64 150] 197)) (by simp)
 have hlt:0<w.heap.size:=by
  rcases Nat.lt_or_ge 0 w.heap.size with h | h
  ·exact h
  ·simp[World.cell?,Array.getElem?_eq_none h] at hg
 have hg2:((w.alloc (.cells #[.pointer (some t)] 151)).alloc (.cells #[.pointer (some ⟨2,151,none⟩),.pointer (some ⟨w.heap.size,0,none⟩),.int .u64 150] 197)).cell? ⟨0,0,none⟩=some (.iface 238 (.agg #[.pointer (some ⟨2,25,none⟩)])):=by
  rw[World.cell?_alloc_lt _ _ ⟨0,0,none⟩ (by simp<;>omega),World.cell?_alloc_lt _ _ ⟨0,0,none⟩ hlt];exact hg
 have htl:t.block<w.heap.size:=by
  rcases Nat.lt_or_ge t.block w.heap.size with h | h
  ·exact h
  ·simp[World.cell?,Array.getElem?_eq_none h] at ht0
 have el:=elemV ⟨w.heap.size,0,none⟩ t (((w.alloc (.cells #[.pointer (some t)] 151)).alloc (.cells #[.pointer (some ⟨2,151,none⟩),.pointer (some ⟨w.heap.size,0,none⟩),.int .u64 150] 197)).alloc (.cells #[.pointer (some ⟨2,151,none⟩),.pointer (some ⟨w.heap.size,0,none⟩),.int .u64 150] 197)) (by rw[World.cell?_alloc_lt _ _ ⟨w.heap.size,0,none⟩ (by simp;omega)];simp)
 have st:=setE t ⟨w.heap.size+1+1+1,0,none⟩ n old ((((w.alloc (.cells #[.pointer (some t)] 151)).alloc (.cells #[.pointer (some ⟨2,151,none⟩),.pointer (some ⟨w.heap.size,0,none⟩),.int .u64 150] 197)).alloc (.cells #[.pointer (some ⟨2,151,none⟩),.pointer (some ⟨w.heap.size,0,none⟩),.int .u64 150] 197)).alloc (.cells #[.int .i64 n] 84))
  (by rw[World.cell?_alloc_at _ _ _ _ (by simp)];rfl)
  (by rw[World.cell?_alloc_lt _ _ t (by simp;omega),World.cell?_alloc_lt _ _ t (by simp;omega),World.cell?_alloc_lt _ _ t (by simp;omega),World.cell?_alloc_lt _ _ t htl];exact ht0)
  (by rw[World.frozen?_alloc_old _ _ t (by simp;omega),World.frozen?_alloc_old _ _ t (by simp;omega),World.frozen?_alloc_old _ _ t (by simp;omega),World.frozen?_alloc_old _ _ t (Nat.ne_of_lt htl)];exact hf0)
 go_enter Tryz.func87,Tryz.ntmps87
 go_wp2
 refine wp_loop_rounds 1 ?_
 rw[rounds_succ]
 go_wp2
 go_ret
 exact⟨rfl,rfl⟩
theorem told_nil (w:World):Calls Tryz.prog 44 #[.nilIface] w fun e w'=>e=.returned (.int .i64 0)∧w'=w:=by
 go_enter Tryz.func44,Tryz.ntmps44
 go_wp2
 go_ret
 exact⟨rfl,rfl⟩
theorem told_err (n:Int) (w:World) (hg:ET w):Calls Tryz.prog 44 #[.iface 84 (.int .i64 n)] w fun e w'=>e=.returned (.int .i64 n)∧Below w.heap.size w w':=by
 have hlt:0<w.heap.size:=by
  unfold ET at hg
  rcases Nat.lt_or_ge 0 w.heap.size with h | h
  ·exact h
  ·simp[World.cell?,Array.getElem?_eq_none h] at hg
 have HG:Hid (ET (w.alloc (.cells #[.int .i64 0] 84))):=by
  unfold Hid ET
  rw[World.cell?_alloc_lt _ _ ⟨0,0,none⟩ hlt];exact hg
 have ht:(w.alloc (.cells #[.int .i64 0] 84)).cell? ⟨w.heap.size,0,none⟩=some (.int .i64 0):=by simp
 have hf:(w.alloc (.cells #[.int .i64 0] 84)).frozen? ⟨w.heap.size,0,none⟩=false:=by simp
 clear hg
 go_enter Tryz.func44,Tryz.ntmps44
 go_wp2_with (go_at_call 87;refine(as_hit _ _ (.int .i64 0) _ HG.out ht hf).mono ?_;rintro e w' ⟨rfl,rfl⟩)
 go_ret
 refine⟨rfl, ?_⟩
 repeat (first | exact Below.refl _ _ | refine Below.setCell ?_ (by simp) _ | refine Below.alloc ?_ (by simp<;>omega) _)
end Kt
end Go.Proofs.YtlmdchpbpgcfmaaGreatDoor
/- What leafsame.Error answers of no error, and of an error of package api. -/
namespace Go.Proofs.YtlmdchpbpgcfmaaGreatDoor
namespace Kl
open Go.RowKit Ka Kt
theorem ET.below {w w':World} (h:ET w) (hb:Below w.heap.size w w'):ET w':=by
 unfold ET at h ⊢
 have hlt:0<w.heap.size:=by
  rcases Nat.lt_or_ge 0 w.heap.size with h2 | h2
  ·exact h2
  ·simp[World.cell?,Array.getElem?_eq_none h2] at h
 rw[hb.cell (p:=⟨0,0,none⟩) hlt]
 exact h
theorem same_nil (k:Int) (w:World):Calls Tryz.prog 11 #[.nilIface,.int .i64 k] w fun e w'=>e=.returned (.bool ((0:Int)==k))∧w'=w:=by
 go_enter Tryz.func11,Tryz.ntmps11
 go_wp2_with (go_at_call 44;refine(told_nil _).mono ?_;rintro e w' ⟨rfl,hw⟩;have hw2:=hw.symm;subst hw2;clear hw)
 go_ret
 exact⟨rfl,rfl⟩
theorem same_err (n k:Int) (w:World) (hg:ET w):Calls Tryz.prog 11 #[.iface 84 (.int .i64 n),.int .i64 k] w fun e w'=>e=.returned (.bool (n==k))∧Below w.heap.size w w':=by
 have HG:=z9 hg
 clear hg
 go_enter Tryz.func11,Tryz.ntmps11
 go_wp2_with (go_at_call 44;refine(told_err _ _ HG.out).mono ?_;rintro e w' ⟨rfl,hbel⟩)
 go_ret
 exact⟨rfl,hbel⟩
/- at once: of an error by its number, 0 for none -/
theorem same_any (n k:Int) (w:World) (hg:ET w):Calls Tryz.prog 11 #[errV n,.int .i64 k] w fun e w'=>e=.returned (.bool (n==k))∧Below w.heap.size w w':=by
 by_cases h:n=0
 ·subst h
  rw[errV,if_pos rfl]
  refine(same_nil k w).mono ?_
  rintro e w' ⟨rfl,rfl⟩
  exact⟨rfl,Below.refl _ _⟩
 ·rw[errV,if_neg h]
  exact same_err n k w hg
end Kl
end Go.Proofs.YtlmdchpbpgcfmaaGreatDoor
