import Derived.Test.YtjcemlmlfoilmaaGreatDoorJ9
import Derived.BigRegion
import Derived.LaidEql
import Derived.Stop.Asserts
import Derived.RowKitTokens
set_option linter.unusedVariables false
set_option maxRecDepth 100000
set_option maxHeartbeats 8000000
namespace Go.Proofs.YtjcemlmlfoilmaaGreatDoor
open Go.Proofs.Tryz (prog)
namespace Dg
theorem aIx:True:=trivial
end Dg
namespace Kt
open Go.RowKit Go.Extern.Stop Go.Extern
def ET (w:World):Prop:=w.cell? ⟨0,0,none⟩=some (.iface 165 (.agg #[.pointer (some ⟨2,25,none⟩)]))
variable (a:Addr)(h:Value)(t:Addr)(n:Int)(p:Addr)(w W:World)
theorem aGL:(ReflectliteValue.unpack (.iface 100 (.pointer (some t)))).run prog w
  =.ok (.agg #[.pointer (some ⟨2,100,none⟩),.pointer (some ⟨w.heap.size,0,none⟩),.int .u64 150]) (w.alloc (.cells #[.pointer (some t)] 100)):=by kernel_rfl
theorem aI9:(ReflectliteValue.methodAny (ReflectliteValue.valueError "reflectlite.Value.Type" 0) (fun t _ _ _=>ReflectliteType.toType t) #[.agg #[.pointer (some ⟨2,100,none⟩),.pointer (some a),.int .u64 150]]).run prog w
  =.ok (.iface 165 (.agg #[.pointer (some ⟨2,100,none⟩)])) w:=by kernel_rfl
theorem aCh:(Go.method 414 165 (.agg #[h]) "Kind").run prog w=.ok (215,h) w:=by kernel_rfl
theorem aJm:((ReflectliteType.abiMethod fun t=>(fun a:Nat=>Value.int IntKind.u8 (a:Int)) <$> Rtype.kind t) #[.pointer (some ⟨2,100,none⟩)]).run prog w=.ok (.int .u8 22) w:=by kernel_rfl
theorem aJk:((ReflectliteType.abiMethod fun t=>(fun a:Nat=>Value.int IntKind.u8 (a:Int)) <$> Rtype.kind t) #[.pointer (some ⟨2,59,none⟩)]).run prog w=.ok (.int .u8 2) w:=by kernel_rfl
theorem aFZ:(ReflectliteValue.parts (.agg #[.pointer (some ⟨2,100,none⟩),.pointer (some a),.int .u64 150])).run prog w=.ok (some (100,a,150)) w:=by kernel_rfl
theorem aIC(ha:W.cell? a=some (.pointer (some p))):
  (ReflectliteValue.method (ReflectliteValue.valueError "reflectlite.Value.IsNil" 0) ReflectliteValue.isNil #[.agg #[.pointer (some ⟨2,100,none⟩),.pointer (some a),.int .u64 150]]).run prog W=.ok (.bool false) W:=by
 change (bind (ReflectliteValue.parts (.agg #[.pointer (some ⟨2,100,none⟩),.pointer (some a),.int .u64 150])) _:Sem Value).run prog W=_;simp only[jZ,aFZ,Result.andThen];simp[ReflectliteValue.isNil,loadVar,isAgg,underlying,Tryz.underlying100,ha,Result.andThen]
theorem aCj:(Go.method 414 165 (.agg #[h]) "Elem").run prog w=.ok (225,.agg #[h]) w:=by kernel_rfl
theorem pM:(Go.method 414 165 (.agg #[h]) "Implements").run prog w=.ok (226,.agg #[h]) w:=by kernel_rfl
theorem mP:(Go.method 414 165 (.agg #[h]) "AssignableTo").run prog w=.ok (223,.agg #[h]) w:=by kernel_rfl
theorem aJo:(ReflectliteType.method ReflectliteType.elem #[.agg #[.pointer (some ⟨2,100,none⟩)]]).run prog w=.ok (.iface 165 (.agg #[.pointer (some ⟨2,59,none⟩)])) w:=by kernel_rfl
theorem aAB:(ReflectliteType.relation "Implements" ReflectliteType.implements_ #[.agg #[.pointer (some ⟨2,59,none⟩)],.iface 165 (.agg #[.pointer (some ⟨2,25,none⟩)])]).run prog w=.ok (.bool true) w:=by kernel_rfl
theorem aHN(v:Value)(w:World):(ReflectliteType.typeOf #[.iface 59 v]).run prog w=.ok (.iface 165 (.agg #[.pointer (some ⟨2,59,none⟩)])) w:=by kernel_rfl
theorem aAy:(ReflectliteType.relation "AssignableTo" ReflectliteType.assignableTo #[.agg #[.pointer (some ⟨2,59,none⟩)],.iface 165 (.agg #[.pointer (some ⟨2,59,none⟩)])]).run prog w=.ok (.bool true) w:=by kernel_rfl
theorem aFz:(ReflectliteValue.unpack (.iface 59 (.int .i64 n))).run prog w
  =.ok (.agg #[.pointer (some ⟨2,59,none⟩),.pointer (some ⟨w.heap.size,0,none⟩),.int .u64 130]) (w.alloc (.cells #[.int .i64 n] 59)):=by kernel_rfl
theorem aH5:(Rtype.elem? 100).run prog w=.ok (some 59) w:=by kernel_rfl
theorem mkE:(ReflectliteValue.mk 59 p ReflectliteValue.flagAddr).run prog w=.ok (.agg #[.pointer (some ⟨2,59,none⟩),.pointer (some p),.int .u64 386]) w:=by kernel_rfl
theorem elemV(ha:W.cell? a=some (.pointer (some p))):
  (ReflectliteValue.method (ReflectliteValue.valueError "reflectlite.Value.Elem" 0) ReflectliteValue.elem #[.agg #[.pointer (some ⟨2,100,none⟩),.pointer (some a),.int .u64 150]]).run prog W
   =.ok (.agg #[.pointer (some ⟨2,59,none⟩),.pointer (some p),.int .u64 386]) W:=by
 change (bind (ReflectliteValue.parts (.agg #[.pointer (some ⟨2,100,none⟩),.pointer (some a),.int .u64 150])) _:Sem Value).run prog W=_;simp only[jZ,aFZ,Result.andThen];simp[ReflectliteValue.elem,loadVar,isAgg,underlying,Tryz.underlying100,ha,Result.andThen,aH5,mkE]
theorem aHC:(ReflectliteValue.parts (.agg #[.pointer (some ⟨2,59,none⟩),.pointer (some a),.int .u64 386])).run prog w=.ok (some (59,a,386)) w:=by kernel_rfl
theorem aIE:(ReflectliteValue.parts (.agg #[.pointer (some ⟨2,59,none⟩),.pointer (some a),.int .u64 130])).run prog w=.ok (some (59,a,130)) w:=by kernel_rfl
theorem aHh:(Rtype.directlyAssignable 59 59).run prog w=.ok true w:=by kernel_rfl
theorem aJq(ta b:Addr)(n:Int)(old:Value)(W:World)(hb:W.cell? b=some (.int .i64 n))(ht:W.cell? ta=some old)(hf:W.frozen? ta=false):
  (ReflectliteValue.set #[.agg #[.pointer (some ⟨2,59,none⟩),.pointer (some ta),.int .u64 386],.agg #[.pointer (some ⟨2,59,none⟩),.pointer (some b),.int .u64 130]]).run prog W
   =.ok (.tuple #[]) (W.setCell ta (.int .i64 n)):=by
 change (bind (ReflectliteValue.parts (.agg #[.pointer (some ⟨2,59,none⟩),.pointer (some ta),.int .u64 386])) fun y=>bind (ReflectliteValue.parts (.agg #[.pointer (some ⟨2,59,none⟩),.pointer (some b),.int .u64 130])) _:Sem Value).run prog W=_;simp only[jZ,aHC,aIE,Result.andThen];simp[ReflectliteValue.flagAddr,loadVar,isAgg,underlying,Tryz.underlying59,hb,Result.andThen,aHh,storeVar,Value.cells,storeCells,Addr.add];rw[run_store prog W ta _ _ (by rfl)];simp[ht,hf]
theorem aIF(t:Addr)(old:Value)(w:World)(hg:ET w)(ht0:w.cell? t=some old)(hf0:w.frozen? t=false):
  Calls prog 40 #[.iface 59 (.int .i64 n),.iface 100 (.pointer (some t))] w fun ev w'=>ev=.returned (.bool true)∧w'=((((w.alloc (.cells #[.pointer (some t)] 100)).alloc (.cells #[.pointer (some ⟨2,100,none⟩),.pointer (some ⟨w.heap.size,0,none⟩),.int .u64 150] 129)).alloc (.cells #[.pointer (some ⟨2,100,none⟩),.pointer (some ⟨w.heap.size,0,none⟩),.int .u64 150] 129)).alloc (.cells #[.int .i64 n] 59)).setCell t (.int .i64 n):=by
 unfold ET at hg
 have h6:=@run_callFunc_extern prog 61 _ (fun args=>ReflectliteValue.unpack (args.getD 0 (.tuple #[]))) Tryz.func61 (by kernel_rfl) (by kernel_rfl) (by kernel_rfl) (by kernel_rfl)
 have h7:=@run_callFunc_extern prog 62 _ (ReflectliteValue.methodAny (ReflectliteValue.valueError "reflectlite.Value.Type" 0) (fun t _ _ _=>ReflectliteType.toType t)) Tryz.func62 (by kernel_rfl) (by kernel_rfl) (by kernel_rfl) (by kernel_rfl)
 have h8:=@run_callFunc_extern prog 63 _ (ReflectliteValue.method (ReflectliteValue.valueError "reflectlite.Value.IsNil" 0) ReflectliteValue.isNil) Tryz.func63 (by kernel_rfl) (by kernel_rfl) (by kernel_rfl) (by kernel_rfl)
 have h27:=@run_callFunc_extern prog 215 _ (ReflectliteType.abiMethod fun t=>do pure (.int .u8 (←Rtype.kind t))) Tryz.func215 (by kernel_rfl) (by kernel_rfl) (by kernel_rfl) (by kernel_rfl)
 have h37:=@run_callFunc_extern prog 225 _ (ReflectliteType.method ReflectliteType.elem) Tryz.func225 (by kernel_rfl) (by kernel_rfl) (by kernel_rfl) (by kernel_rfl)
 have h38:=@run_callFunc_extern prog 226 _ (ReflectliteType.relation "Implements" ReflectliteType.implements_) Tryz.func226 (by kernel_rfl) (by kernel_rfl) (by kernel_rfl) (by kernel_rfl)
 have h10:=@run_callFunc_extern prog 87 _ ReflectliteType.typeOf Tryz.func87 (by kernel_rfl) (by kernel_rfl) (by kernel_rfl) (by kernel_rfl)
 have h35:=@run_callFunc_extern prog 223 _ (ReflectliteType.relation "AssignableTo" ReflectliteType.assignableTo) Tryz.func223 (by kernel_rfl) (by kernel_rfl) (by kernel_rfl) (by kernel_rfl)
 have h11:=@run_callFunc_extern prog 88 _ (ReflectliteValue.method (ReflectliteValue.valueError "reflectlite.Value.Elem" 0) ReflectliteValue.elem) Tryz.func88 (by kernel_rfl) (by kernel_rfl) (by kernel_rfl) (by kernel_rfl)
 have h12:=@run_callFunc_extern prog 89 _ ReflectliteValue.set Tryz.func89 (by kernel_rfl) (by kernel_rfl) (by kernel_rfl) (by kernel_rfl)
 have tO:=aHN
 have mA:=mP
 have aE:=aAy
 have vE:=aFz
 have f6:=aGL
 have f7:=aI9
 have mK:=aCh
 have mE:=aCj
 have mI:=pM
 have kP:=aJm
 have kE:=aJk
 have eP:=aJo
 have iE:=aAB
 have n8:=aIC (zW w) t ((w.alloc (.cells #[.pointer (some t)] 100)).alloc (.cells #[.pointer (some ⟨2,100,none⟩),.pointer (some (zW w)),.int .u64 150] 129)) (by simp)
 have hlt:0<w.heap.size:=by
  rcases xR 0 w.heap.size with h | h
  ·exact h
  ·simp[World.cell?,jQ h] at hg
 have hg2:((w.alloc (.cells #[.pointer (some t)] 100)).alloc (.cells #[.pointer (some ⟨2,100,none⟩),.pointer (some (zW w)),.int .u64 150] 129)).cell? (zA 0)=some (.iface 165 (.agg #[.pointer (some ⟨2,25,none⟩)])):=by
  rw[jH _ _ (zA 0) (by simp<;>omega),jH _ _ (zA 0) hlt];exact hg
 have htl:t.block<w.heap.size:=by
  rcases xR t.block w.heap.size with h | h
  ·exact h
  ·simp[World.cell?,jQ h] at ht0
 have el:=elemV (zW w) t (((w.alloc (.cells #[.pointer (some t)] 100)).alloc (.cells #[.pointer (some ⟨2,100,none⟩),.pointer (some (zW w)),.int .u64 150] 129)).alloc (.cells #[.pointer (some ⟨2,100,none⟩),.pointer (some (zW w)),.int .u64 150] 129)) (by rw[jH _ _ (zW w) (by simp;omega)];simp)
 have st:=aJq t ⟨w.heap.size+1+1+1,0,none⟩ n old ((((w.alloc (.cells #[.pointer (some t)] 100)).alloc (.cells #[.pointer (some ⟨2,100,none⟩),.pointer (some (zW w)),.int .u64 150] 129)).alloc (.cells #[.pointer (some ⟨2,100,none⟩),.pointer (some (zW w)),.int .u64 150] 129)).alloc (.cells #[zI n] 59))
  (by rw[World.cell?_alloc_at _ _ _ _ (by simp)];rfl)
  (by rw[jH _ _ t (by simp;omega),jH _ _ t (by simp;omega),jH _ _ t (by simp;omega),jH _ _ t htl];exact ht0)
  (by rw[vF _ _ t (by simp;omega),vF _ _ t (by simp;omega),vF _ _ t (by simp;omega),vF _ _ t (kO htl)];exact hf0)
 go_in
 go_wp2
 refine wp_loop_rounds 1 ?_
 rw[rounds_succ]
 go_wp2
 go_ret
 exact⟨rfl,rfl⟩
theorem tS:Calls prog 20 #[.nilIface] w fun e w'=>e=.returned (.int .i64 0)/\w'=w:=by
 go_in;go_wp2;go_ret;exact⟨rfl,rfl⟩
theorem aGz(hg:ET w):Calls prog 20 #[.iface 59 (.int .i64 n)] w fun e w'=>e=.returned (.int .i64 n)/\zB w w':=by
 have a:0<w.heap.size:=by
  unfold ET at hg;rcases xR 0 w.heap.size with h | h
  ·exact h
  ·simp[World.cell?,jQ h] at hg
 have b:Hid (ET (w.alloc (.cells #[zI 0] 59))):=by
  unfold Hid ET;rw[jH _ _ (zA 0) a];exact hg
 have c:(w.alloc (.cells #[zI 0] 59)).cell? (zW w)=some z0:=by simp
 have d:(w.alloc (.cells #[zI 0] 59)).frozen? (zW w)=false:=by simp
 clear hg;go_in;go_wp2_with (go_at_call 40;refine(aIF _ _ z0 _ b.out c d).mono ?_;rintro e w' ⟨rfl,rfl⟩);go_ret;refine⟨rfl, ?_⟩;repeat (first | exact qD _ _ | refine Below.setCell ?_ (by simp) _ | refine Below.alloc ?_ (by simp<;>omega) _)
end Kt
namespace Kl
open Ka Kt
theorem ET.below{w w':World}(h:ET w)(hb:zB w w'):ET w':=by
 unfold ET at h |-
 have a:0<w.heap.size:=by
  rcases xR 0 w.heap.size with h2 | h2
  ·exact h2
  ·simp[World.cell?,jQ h2] at h
 rw[hb.cell (p:=(zA 0)) a];exact h
theorem aGr(k:Int)(w:World):Calls prog 5 #[.nilIface,.int .i64 k] w fun e w'=>e=.returned (.bool ((0:Int)==k))/\w'=w:=by
 go_in;go_wp2_with (go_at_call 20;refine(tS _).mono ?_;rintro e w' ⟨rfl,a⟩;subst w');go_ret;exact⟨rfl,rfl⟩
theorem aGs(n k:Int)(w:World)(hg:ET w):Calls prog 5 #[.iface 59 (.int .i64 n),.int .i64 k] w fun e w'=>e=.returned (.bool (n==k))/\zB w w':=by
 have b:=z9 hg;clear hg;go_in;go_wp2_with (go_at_call 20;refine(aGz _ _ b.out).mono ?_;rintro e w' ⟨rfl,a⟩);go_ret;exact⟨rfl,a⟩
theorem sK(n k:Int)(w:World)(hg:ET w):Calls prog 5 #[errV n,.int .i64 k] w fun e w'=>e=.returned (.bool (n==k))/\zB w w':=by
 by_cases h:n=0
 ·subst h;rw[errV,if_pos rfl];refine(aGr k w).mono ?_;rintro e w' ⟨rfl,rfl⟩;exact⟨rfl,qD _ _⟩
 ·rw[errV,if_neg h];exact aGs n k w hg
end Kl
end Go.Proofs.YtjcemlmlfoilmaaGreatDoor
