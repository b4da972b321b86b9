/- What the condition on the listed variable errors.errorType gives a walk, and a world that meets it. -/
import Derived.Test.YtlmdchpbpgcfmaaGreatDoorRows
import Derived.Test.YtlmdchpbpgcfmaaGreatDoorJ14
import Derived.WalkKit
import Derived.ProofKit
import Derived.ChangeSame
import Derived.ChangeVars
import Derived.JoinedOf
import Derived.RowKit
import Derived.RowKitTokens
import Derived.LaidLaws
import Derived.LaidHandle
import Derived.Stop.Joined
set_option maxRecDepth 100000
set_option maxHeartbeats 8000000
namespace Go.Proofs.YtlmdchpbpgcfmaaGreatDoor
namespace Kk
open Go.ChangeShapes Go.WideShapes Go.RowKit
theorem own:ownKnob Tryz.prog.godebug=none:=by kernel_rfl
theorem et:Tryz.prog.globalNamed "errors.errorType" =some 0:=by kernel_rfl
theorem oneRow:((List.range 324).filter fun t=>Tryz.prog.rowNamed t [101,114,114,111,114])=[25]:=by kernel_rfl
theorem size:Tryz.prog.types.size=324:=by kernel_rfl
/- the list, as every row of the seat has it -/
def laid {H:Type}:List (String × DataW H):=[("errors.errorType",Rows.laid_errors_errorType)]
theorem handle_of_laid {W:World} (h:laidMetH Tryz.prog laid W):Kt.ET W:=by
 have h':laidMet Tryz.prog [] W∧handlesMet Tryz.prog laid W:=h
 obtain⟨name,u,ty,e1,e2,e3,e4,e5⟩:=h'.2 _ (List.mem_singleton.2 rfl)
 have en:name=[101,114,114,111,114]:=(Option.some.inj e1).symm
 subst en
 obtain rfl:=Option.some.inj (e2.symm.trans (show _=some 238 by kernel_rfl))
 have hm:ty ∈ (List.range 324).filter fun t=>Tryz.prog.rowNamed t [101,114,114,111,114]:=List.mem_filter.2 ⟨List.mem_range.2 (by rw[←size];exact e3),e4⟩
 rw[oneRow] at hm
 obtain rfl:=List.mem_singleton.1 hm
 have hh:typeHandle Tryz.prog 25=.pointer (some ⟨2,25,none⟩):=by kernel_rfl
 rw[hh] at e5
 unfold Kt.ET
 simpa using World.var?_cell et e5 0
/- a world that meets it: what each block is changed to -/
def put:Obj→Obj
 | .cells _ t frozen=> .cells #[.iface 238 (.agg #[.pointer (some ⟨2,25,none⟩)])] t frozen
 | o=>o
theorem laidWorld_met (os:Os) (args:Array Value):laidMetH Tryz.prog laid (({ World.holding Tryz.prog os ⟨#[],#[],[]⟩ with heap:=(World.holding Tryz.prog os ⟨#[],#[],[]⟩).heap.modify 0 put }:World).forCall (fun _ _=>0) ⟨#[],args,[]⟩).memory:=
 laidMetH_of_parts (laidMet_nil _ _) (by kernel_rfl)
end Kk
end Go.Proofs.YtlmdchpbpgcfmaaGreatDoor
