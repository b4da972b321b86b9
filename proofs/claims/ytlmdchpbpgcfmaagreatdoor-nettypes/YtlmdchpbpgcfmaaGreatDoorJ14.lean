import Derived.Test.YtlmdchpbpgcfmaaGreatDoorJ9
import Derived.OwnWalk
import Derived.Laws.OwnMore
import Derived.RegionTactic
import Derived.BigRegion
import Derived.Deep.QuietTactic
import Derived.BigQuiet
import Derived.Test.YtlmdchpbpgcfmaaGreatDoorJ2
import Derived.LaidEql
import Derived.Stop.Asserts
import Derived.RowKitTokens
set_option linter.unusedVariables false
set_option maxRecDepth 100000
set_option maxHeartbeats 8000000
/- What dot.checkBoth, dot.Merge and leafsame.Ints answer. -/
namespace Go.Proofs.YtlmdchpbpgcfmaaGreatDoor
namespace Dg
open Go.ChangeShapes Go.WideShapes Go.ChangeAt Go.RowKit Za Db
/- a row of the call's own that is filled, one cell after the other -/
def Fill (w:World) (g n:Nat) (F:Nat→Value) (k:Nat) (wr:World):Prop:=
 (∀j,j<k→wr.cell? ⟨g,j,none⟩=some (F j))∧(∀j,j<n→∃v,wr.cell? ⟨g,j,none⟩=some v)∧(∀j,wr.frozen? ⟨g,j,none⟩=false)∧Below w.heap.size w wr∧w.heap.size≤g
theorem Fill.start {w w1:World} {t:TypeId} {F:Nat→Value} {n cap:Nat} {g:Nat} {xs:List Value} (hg:w.heap.size≤g) (h:w1.ownsRow g t 1 (.slice (some ⟨g,0,none⟩) n cap) n xs) (hb:Below w.heap.size w w1):Fill w g n F 0 w1:=by
 refine⟨fun j hj=>absurd hj (by omega), ?_, ?_,hb,hg⟩
 ·intro j hj
  rcases h.2 with⟨e,_⟩ | ⟨g',cap',cur,e,_,h2,h3,h4,h5,h6⟩
  ·cases e
  ·injection e with e1
   injection e1 with e1
   injection e1 with e1
   subst e1
   refine⟨cur[j]'(by omega), ?_⟩
   simp only[World.cell?,h2]
   simp[show j<cur.size by omega]
 ·intro j
  rcases h.2 with⟨e,_⟩ | ⟨g',cap',cur,e,_,h2,h3,h4,h5,h6⟩
  ·cases e
  ·injection e with e1
   injection e1 with e1
   injection e1 with e1
   subst e1
   simp[World.frozen?,h2]
theorem Fill.step {w wr:World} {g n k:Nat} {F:Nat→Value} (h:Fill w g n F k wr) (hk:k<n) (v:Value) (hv:v=F k):Fill w g n F (k+1) (wr.setCell ⟨g,k,none⟩ v):=by
 obtain⟨h1,h2,h3,h4,h5⟩:=h
 refine⟨fun j hj=> ?_,fun j hj=> ?_,fun j=> ?_,h4.setCell (p:=⟨g,k,none⟩) h5 _,h5⟩
 ·by_cases e:j=k
  ·subst e
   obtain⟨u,hu⟩:=h2 j hk
   rw[World.cell?_setCell_same _ _ _ hu,hv]
  ·rw[World.cell?_setCell_other _ _ _ _ (by intro e2;injection e2;omega)]
   exact h1 j (by omega)
 ·obtain⟨u,hu⟩:=h2 j hj
  exact cell?_setCell_some hu
 ·rw[World.frozen?_setCell];exact h3 j
theorem Fill.below {w wr w2:World} {g n k:Nat} {F:Nat→Value} (h:Fill w g n F k wr) (hg:g<wr.heap.size) (hb:Below wr.heap.size wr w2):Fill w g n F k w2:=by
 obtain⟨h1,h2,h3,h4,h5⟩:=h
 refine⟨fun j hj=> ?_,fun j hj=> ?_,fun j=> ?_,bel h4 hb,h5⟩
 ·rw[hb.cell (p:=⟨g,j,none⟩) hg];exact h1 j hj
 ·rw[hb.cell (p:=⟨g,j,none⟩) hg];exact h2 j hj
 ·rw[hb.frozen (p:=⟨g,j,none⟩) hg];exact h3 j
theorem Fill.drew {w wr:World} {g n k:Nat} {F:Nat→Value} (h:Fill w g n F k wr) (q:Nat):Fill w g n F k (wr.drewN q):=
 ⟨h.1,h.2.1,h.2.2.1,bel_drew h.2.2.2.1 q,h.2.2.2.2⟩
theorem Fill.lt {w wr:World} {g n k:Nat} {F:Nat→Value} (h:Fill w g n F k wr) (hn:0<n):g<wr.heap.size:=by
 obtain⟨v,hv⟩:=h.2.1 0 hn
 exact World.block_lt_of_cell? _ _ hv
end Dg
end Go.Proofs.YtlmdchpbpgcfmaaGreatDoor
/- What plain.Told answers of no error, and of an error of package api that is not wrapped: Go's own text of errors.As is walked. -/
namespace Go.Proofs.YtlmdchpbpgcfmaaGreatDoor
namespace Kt
open Go.RowKit Go.Extern.Stop Go.Stop Go.Extern
/- the cell that the listed variable errors.errorType holds -/
def ET (w:World):Prop:=w.cell? ⟨0,0,none⟩=some (.iface 238 (.agg #[.pointer (some ⟨2,25,none⟩)]))
theorem valueOfP (t:Addr) (w:World):(ReflectliteValue.unpack (.iface 151 (.pointer (some t)))).run Tryz.prog w
  =.ok (.agg #[.pointer (some ⟨2,151,none⟩),.pointer (some ⟨w.heap.size,0,none⟩),.int .u64 150]) (w.alloc (.cells #[.pointer (some t)] 151)):=by kernel_rfl
theorem typeP (a:Addr) (w:World):(ReflectliteValue.methodAny (ReflectliteValue.valueError "reflectlite.Value.Type" 0) (fun t _ _ _=>ReflectliteType.toType t) #[.agg #[.pointer (some ⟨2,151,none⟩),.pointer (some a),.int .u64 150]]).run Tryz.prog w
  =.ok (.iface 238 (.agg #[.pointer (some ⟨2,151,none⟩)])) w:=by kernel_rfl
theorem methodKind (h:Value) (w:World):(Go.method 424 238 (.agg #[h]) "Kind").run Tryz.prog w=.ok (235,h) w:=by kernel_rfl
theorem kindP (w:World):((ReflectliteType.abiMethod fun t=>(fun a:Nat=>Value.int IntKind.u8 (a:Int)) <$> Rtype.kind t) #[.pointer (some ⟨2,151,none⟩)]).run Tryz.prog w=.ok (.int .u8 22) w:=by kernel_rfl
theorem kindE (w:World):((ReflectliteType.abiMethod fun t=>(fun a:Nat=>Value.int IntKind.u8 (a:Int)) <$> Rtype.kind t) #[.pointer (some ⟨2,84,none⟩)]).run Tryz.prog w=.ok (.int .u8 2) w:=by kernel_rfl
theorem partsP (a:Addr) (w:World):(ReflectliteValue.parts (.agg #[.pointer (some ⟨2,151,none⟩),.pointer (some a),.int .u64 150])).run Tryz.prog w=.ok (some (151,a,150)) w:=by kernel_rfl
theorem isNilP (a p:Addr) (W:World) (ha:W.cell? a=some (.pointer (some p))):
  (ReflectliteValue.method (ReflectliteValue.valueError "reflectlite.Value.IsNil" 0) ReflectliteValue.isNil #[.agg #[.pointer (some ⟨2,151,none⟩),.pointer (some a),.int .u64 150]]).run Tryz.prog W=.ok (.bool false) W:=by
 change (bind (ReflectliteValue.parts (.agg #[.pointer (some ⟨2,151,none⟩),.pointer (some a),.int .u64 150])) _:Sem Value).run Tryz.prog W=_
 simp only[Sem.run_bind,partsP,Result.andThen]
 simp[ReflectliteValue.isNil,loadVar,isAgg,underlying,Tryz.underlying151,ha,Result.andThen]
theorem methodElem (h:Value) (w:World):(Go.method 424 238 (.agg #[h]) "Elem").run Tryz.prog w=.ok (246,.agg #[h]) w:=by kernel_rfl
theorem methodImplements (h:Value) (w:World):(Go.method 424 238 (.agg #[h]) "Implements").run Tryz.prog w=.ok (247,.agg #[h]) w:=by kernel_rfl
theorem methodAssignableTo (h:Value) (w:World):(Go.method 424 238 (.agg #[h]) "AssignableTo").run Tryz.prog w=.ok (244,.agg #[h]) w:=by kernel_rfl
theorem elemP (w:World):(ReflectliteType.method ReflectliteType.elem #[.agg #[.pointer (some ⟨2,151,none⟩)]]).run Tryz.prog w=.ok (.iface 238 (.agg #[.pointer (some ⟨2,84,none⟩)])) w:=by kernel_rfl
theorem implementsE (w:World):(ReflectliteType.relation "Implements" ReflectliteType.implements_ #[.agg #[.pointer (some ⟨2,84,none⟩)],.iface 238 (.agg #[.pointer (some ⟨2,25,none⟩)])]).run Tryz.prog w=.ok (.bool true) w:=by kernel_rfl
theorem typeOfE (v:Value) (w:World):(ReflectliteType.typeOf #[.iface 84 v]).run Tryz.prog w=.ok (.iface 238 (.agg #[.pointer (some ⟨2,84,none⟩)])) w:=by kernel_rfl
theorem assignableE (w:World):(ReflectliteType.relation "AssignableTo" ReflectliteType.assignableTo #[.agg #[.pointer (some ⟨2,84,none⟩)],.iface 238 (.agg #[.pointer (some ⟨2,84,none⟩)])]).run Tryz.prog w=.ok (.bool true) w:=by kernel_rfl
theorem valueOfE (n:Int) (w:World):(ReflectliteValue.unpack (.iface 84 (.int .i64 n))).run Tryz.prog w
  =.ok (.agg #[.pointer (some ⟨2,84,none⟩),.pointer (some ⟨w.heap.size,0,none⟩),.int .u64 130]) (w.alloc (.cells #[.int .i64 n] 84)):=by kernel_rfl
theorem elemOfP (w:World):(Rtype.elem? 151).run Tryz.prog w=.ok (some 84) w:=by kernel_rfl
theorem mkE (p:Addr) (w:World):(ReflectliteValue.mk 84 p ReflectliteValue.flagAddr).run Tryz.prog w=.ok (.agg #[.pointer (some ⟨2,84,none⟩),.pointer (some p),.int .u64 386]) w:=by kernel_rfl
theorem elemV (a p:Addr) (W:World) (ha:W.cell? a=some (.pointer (some p))):
  (ReflectliteValue.method (ReflectliteValue.valueError "reflectlite.Value.Elem" 0) ReflectliteValue.elem #[.agg #[.pointer (some ⟨2,151,none⟩),.pointer (some a),.int .u64 150]]).run Tryz.prog W
   =.ok (.agg #[.pointer (some ⟨2,84,none⟩),.pointer (some p),.int .u64 386]) W:=by
 change (bind (ReflectliteValue.parts (.agg #[.pointer (some ⟨2,151,none⟩),.pointer (some a),.int .u64 150])) _:Sem Value).run Tryz.prog W=_
 simp only[Sem.run_bind,partsP,Result.andThen]
 simp[ReflectliteValue.elem,loadVar,isAgg,underlying,Tryz.underlying151,ha,Result.andThen,elemOfP,mkE]
theorem partsEa (a:Addr) (w:World):(ReflectliteValue.parts (.agg #[.pointer (some ⟨2,84,none⟩),.pointer (some a),.int .u64 386])).run Tryz.prog w=.ok (some (84,a,386)) w:=by kernel_rfl
theorem partsE (a:Addr) (w:World):(ReflectliteValue.parts (.agg #[.pointer (some ⟨2,84,none⟩),.pointer (some a),.int .u64 130])).run Tryz.prog w=.ok (some (84,a,130)) w:=by kernel_rfl
theorem directE (w:World):(Rtype.directlyAssignable 84 84).run Tryz.prog w=.ok true w:=by kernel_rfl
theorem setE (ta b:Addr) (n:Int) (old:Value) (W:World) (hb:W.cell? b=some (.int .i64 n)) (ht:W.cell? ta=some old) (hf:W.frozen? ta=false):
  (ReflectliteValue.set #[.agg #[.pointer (some ⟨2,84,none⟩),.pointer (some ta),.int .u64 386],.agg #[.pointer (some ⟨2,84,none⟩),.pointer (some b),.int .u64 130]]).run Tryz.prog W
   =.ok (.tuple #[]) (W.setCell ta (.int .i64 n)):=by
 change (bind (ReflectliteValue.parts (.agg #[.pointer (some ⟨2,84,none⟩),.pointer (some ta),.int .u64 386])) fun y=>bind (ReflectliteValue.parts (.agg #[.pointer (some ⟨2,84,none⟩),.pointer (some b),.int .u64 130])) _:Sem Value).run Tryz.prog W=_
 simp only[Sem.run_bind,partsEa,partsE,Result.andThen]
 simp[ReflectliteValue.flagAddr,loadVar,isAgg,underlying,Tryz.underlying84,hb,Result.andThen,directE,storeVar,Value.cells,storeCells,Addr.add]
 rw[run_store Tryz.prog W ta _ _ (by rfl)]
 simp[ht,hf]
theorem as_hit (n:Int) (t:Addr) (old:Value) (w:World) (hg:ET w) (ht0:w.cell? t=some old) (hf0:w.frozen? t=false):
  Calls Tryz.prog 87 #[.iface 84 (.int .i64 n),.iface 151 (.pointer (some t))] w fun ev w'=>ev=.returned (.bool true)∧w'=((((w.alloc (.cells #[.pointer (some t)] 151)).alloc (.cells #[.pointer (some ⟨2,151,none⟩),.pointer (some ⟨w.heap.size,0,none⟩),.int .u64 150] 197)).alloc (.cells #[.pointer (some ⟨2,151,none⟩),.pointer (some ⟨w.heap.size,0,none⟩),.int .u64 150] 197)).alloc (.cells #[.int .i64 n] 84)).setCell t (.int .i64 n):=by
 unfold ET at hg
 have h6:=@run_callFunc_extern Tryz.prog 130 _ (fun args=>ReflectliteValue.unpack (args.getD 0 (.tuple #[]))) Tryz.func130 (by kernel_rfl) (by kernel_rfl) (by kernel_rfl) (by kernel_rfl)
 have h7:=@run_callFunc_extern Tryz.prog 131 _ (ReflectliteValue.methodAny (ReflectliteValue.valueError "reflectlite.Value.Type" 0) (fun t _ _ _=>ReflectliteType.toType t)) Tryz.func131 (by kernel_rfl) (by kernel_rfl) (by kernel_rfl) (by kernel_rfl)
 have h8:=@run_callFunc_extern Tryz.prog 132 _ (ReflectliteValue.method (ReflectliteValue.valueError "reflectlite.Value.IsNil" 0) ReflectliteValue.isNil) Tryz.func132 (by kernel_rfl) (by kernel_rfl) (by kernel_rfl) (by kernel_rfl)
 have h27:=@run_callFunc_extern Tryz.prog 235 _ (ReflectliteType.abiMethod fun t=>do pure (.int .u8 (←Rtype.kind t))) Tryz.func235 (by kernel_rfl) (by kernel_rfl) (by kernel_rfl) (by kernel_rfl)
 have h37:=@run_callFunc_extern Tryz.prog 246 _ (ReflectliteType.method ReflectliteType.elem) Tryz.func246 (by kernel_rfl) (by kernel_rfl) (by kernel_rfl) (by kernel_rfl)
 have h38:=@run_callFunc_extern Tryz.prog 247 _ (ReflectliteType.relation "Implements" ReflectliteType.implements_) Tryz.func247 (by kernel_rfl) (by kernel_rfl) (by kernel_rfl) (by kernel_rfl)
 have h10:=@run_callFunc_extern Tryz.prog 167 _ ReflectliteType.typeOf Tryz.func167 (by kernel_rfl) (by kernel_rfl) (by kernel_rfl) (by kernel_rfl)
 have h35:=@run_callFunc_extern Tryz.prog 244 _ (ReflectliteType.relation "AssignableTo" ReflectliteType.assignableTo) Tryz.func244 (by kernel_rfl) (by kernel_rfl) (by kernel_rfl) (by kernel_rfl)
 have h11:=@run_callFunc_extern Tryz.prog 168 _ (ReflectliteValue.method (ReflectliteValue.valueError "reflectlite.Value.Elem" 0) ReflectliteValue.elem) Tryz.func168 (by kernel_rfl) (by kernel_rfl) (by kernel_rfl) (by kernel_rfl)
 have h12:=@run_callFunc_extern Tryz.prog 169 _ ReflectliteValue.set Tryz.func169 (by kernel_rfl) (by kernel_rfl) (by kernel_rfl) (by kernel_rfl)
 have tO:=typeOfE
 have mA:=methodAssignableTo
 have aE:=assignableE
 have vE:=valueOfE
 have f6:=valueOfP
 have f7:=typeP
 have mK:=methodKind
 have mE:=methodElem
 have mI:=methodImplements
 have kP:=kindP
 have kE:=kindE
 have eP:=elemP
 have iE:=implementsE
 have n8:=isNilP ⟨w.heap.size,0,none⟩ t ((w.alloc (.cells #[.pointer (some t)] 151)).alloc (.cells #[.pointer (some ⟨2,151,none⟩),.pointer (some ⟨w.heap.size,0,none⟩),.int .u64 150] 197)) (by simp)
 have hlt:0<w.heap.size:=by
  rcases Nat.lt_or_ge 0 w.heap.size with h | h
  ·exact h
  ·simp[World.cell?,Array.getElem?_eq_none h] at hg
 have hg2:((w.alloc (.cells #[.pointer (some t)] 151)).alloc (.cells #[.pointer (some ⟨2,151,none⟩),.pointer (some ⟨w.heap.size,0,none⟩),.int .u64 150] 197)).cell? ⟨0,0,none⟩=some (.iface 238 (.agg #[.pointer (some ⟨2,25,none⟩)])):=by
  rw[World.cell?_alloc_lt _ _ ⟨0,0,none⟩ (by simp<;>omega),World.cell?_alloc_lt _ _ ⟨0,0,none⟩ hlt];exact hg
 have htl:t.block<w.heap.size:=by
  rcases Nat.lt_or_ge t.block w.heap.size with h | h
  ·exact h
  ·simp[World.cell?,Array.getElem?_eq_none h] at ht0
 have el:=elemV ⟨w.heap.size,0,none⟩ t (((w.alloc (.cells #[.pointer (some t)] 151)).alloc (.cells #[.pointer (some ⟨2,151,none⟩),.pointer (some ⟨w.heap.size,0,none⟩),.int .u64 150] 197)).alloc (.cells #[.pointer (some ⟨2,151,none⟩),.pointer (some ⟨w.heap.size,0,none⟩),.int .u64 150] 197)) (by rw[World.cell?_alloc_lt _ _ ⟨w.heap.size,0,none⟩ (by simp;omega)];simp)
 have st:=setE t ⟨w.heap.size+1+1+1,0,none⟩ n old ((((w.alloc (.cells #[.pointer (some t)] 151)).alloc (.cells #[.pointer (some ⟨2,151,none⟩),.pointer (some ⟨w.heap.size,0,none⟩),.int .u64 150] 197)).alloc (.cells #[.pointer (some ⟨2,151,none⟩),.pointer (some ⟨w.heap.size,0,none⟩),.int .u64 150] 197)).alloc (.cells #[.int .i64 n] 84))
  (by rw[World.cell?_alloc_at _ _ _ _ (by simp)];rfl)
  (by rw[World.cell?_alloc_lt _ _ t (by simp;omega),World.cell?_alloc_lt _ _ t (by simp;omega),World.cell?_alloc_lt _ _ t (by simp;omega),World.cell?_alloc_lt _ _ t htl];exact ht0)
  (by rw[World.frozen?_alloc_old _ _ t (by simp;omega),World.frozen?_alloc_old _ _ t (by simp;omega),World.frozen?_alloc_old _ _ t (by simp;omega),World.frozen?_alloc_old _ _ t (Nat.ne_of_lt htl)];exact hf0)
 go_enter Tryz.func87,Tryz.ntmps87
 go_wp2
 refine wp_loop_rounds 1 ?_
 rw[rounds_succ]
 go_wp2
 go_ret
 exact⟨rfl,rfl⟩
theorem told_nil (w:World):Calls Tryz.prog 44 #[.nilIface] w fun e w'=>e=.returned (.int .i64 0)∧w'=w:=by
 go_enter Tryz.func44,Tryz.ntmps44
 go_wp2
 go_ret
 exact⟨rfl,rfl⟩
theorem told_err (n:Int) (w:World) (hg:ET w):Calls Tryz.prog 44 #[.iface 84 (.int .i64 n)] w fun e w'=>e=.returned (.int .i64 n)∧Below w.heap.size w w':=by
 have hlt:0<w.heap.size:=by
  unfold ET at hg
  rcases Nat.lt_or_ge 0 w.heap.size with h | h
  ·exact h
  ·simp[World.cell?,Array.getElem?_eq_none h] at hg
 have HG:Hid (ET (w.alloc (.cells #[.int .i64 0] 84))):=by
  unfold Hid ET
  rw[World.cell?_alloc_lt _ _ ⟨0,0,none⟩ hlt];exact hg
 have ht:(w.alloc (.cells #[.int .i64 0] 84)).cell? ⟨w.heap.size,0,none⟩=some (.int .i64 0):=by simp
 have hf:(w.alloc (.cells #[.int .i64 0] 84)).frozen? ⟨w.heap.size,0,none⟩=false:=by simp
 clear hg
 go_enter Tryz.func44,Tryz.ntmps44
 go_wp2_with (go_at_call 87;refine(as_hit _ _ (.int .i64 0) _ HG.out ht hf).mono ?_;rintro e w' ⟨rfl,rfl⟩)
 go_ret
 refine⟨rfl, ?_⟩
 repeat (first | exact Below.refl _ _ | refine Below.setCell ?_ (by simp) _ | refine Below.alloc ?_ (by simp<;>omega) _)
end Kt
end Go.Proofs.YtlmdchpbpgcfmaaGreatDoor
/- What leafsame.Error answers of no error, and of an error of package api. -/
namespace Go.Proofs.YtlmdchpbpgcfmaaGreatDoor
namespace Kl
open Go.RowKit Ka Kt
theorem ET.below {w w':World} (h:ET w) (hb:Below w.heap.size w w'):ET w':=by
 unfold ET at h ⊢
 have hlt:0<w.heap.size:=by
  rcases Nat.lt_or_ge 0 w.heap.size with h2 | h2
  ·exact h2
  ·simp[World.cell?,Array.getElem?_eq_none h2] at h
 rw[hb.cell (p:=⟨0,0,none⟩) hlt]
 exact h
theorem same_nil (k:Int) (w:World):Calls Tryz.prog 11 #[.nilIface,.int .i64 k] w fun e w'=>e=.returned (.bool ((0:Int)==k))∧w'=w:=by
 go_enter Tryz.func11,Tryz.ntmps11
 go_wp2_with (go_at_call 44;refine(told_nil _).mono ?_;rintro e w' ⟨rfl,hw⟩;have hw2:=hw.symm;subst hw2;clear hw)
 go_ret
 exact⟨rfl,rfl⟩
theorem same_err (n k:Int) (w:World) (hg:ET w):Calls Tryz.prog 11 #[.iface 84 (.int .i64 n),.int .i64 k] w fun e w'=>e=.returned (.bool (n==k))∧Below w.heap.size w w':=by
 have HG:=z9 hg
 clear hg
 go_enter Tryz.func11,Tryz.ntmps11
 go_wp2_with (go_at_call 44;refine(told_err _ _ HG.out).mono ?_;rintro e w' ⟨rfl,hbel⟩)
 go_ret
 exact⟨rfl,hbel⟩
/- at once: of an error by its number, 0 for none -/
theorem same_any (n k:Int) (w:World) (hg:ET w):Calls Tryz.prog 11 #[errV n,.int .i64 k] w fun e w'=>e=.returned (.bool (n==k))∧Below w.heap.size w w':=by
 by_cases h:n=0
 ·subst h
  rw[errV,if_pos rfl]
  refine(same_nil k w).mono ?_
  rintro e w' ⟨rfl,rfl⟩
  exact⟨rfl,Below.refl _ _⟩
 ·rw[errV,if_neg h]
  exact same_err n k w hg
end Kl
end Go.Proofs.YtlmdchpbpgcfmaaGreatDoor
