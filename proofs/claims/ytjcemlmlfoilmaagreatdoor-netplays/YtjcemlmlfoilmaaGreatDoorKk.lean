import Derived.Test.YtjcemlmlfoilmaaGreatDoorJ14
import Derived.ChangeSame
import Derived.ChangeVars
import Derived.JoinedOf
import Derived.RowKit
import Derived.LaidLaws
import Derived.LaidHandle
import Derived.Stop.Joined
set_option maxRecDepth 100000
set_option maxHeartbeats 8000000
namespace Go.Proofs.YtjcemlmlfoilmaaGreatDoor
open Go.Proofs.Tryz (prog)
namespace Kk
theorem own:ownKnob prog.godebug=none:=by kernel_rfl
theorem et:prog.globalNamed "errors.errorType" =some 0:=by kernel_rfl
theorem aIL:((List.range 314).filter fun t=>prog.rowNamed t [101,114,114,111,114])=[25]:=by kernel_rfl
theorem size:prog.types.size=314:=by kernel_rfl
def laid {H:Type}:List (String × DataW H):=[("errors.errorType",Rows.laid_errors_errorType)]
theorem sY{W:World}(h:laidMetH prog laid W):Kt.ET W:=by
 have h':laidMet prog [] W/\handlesMet prog laid W:=h;obtain⟨a,u,d,e,f,g,i,b⟩:=h'.2 _ (qP.2 rfl);have j:a=[101,114,114,111,114]:=(Option.some.inj e).symm;subst j;obtain rfl:=Option.some.inj (f.symm.trans (show _=some 165 by kernel_rfl));have c:d ∈ (List.range 314).filter fun t=>prog.rowNamed t [101,114,114,111,114]:=yH.2 ⟨vW.2 (by rw[<-size];exact g),i⟩
 rw[aIL] at c;obtain rfl:=qP.1 c;have k:typeHandle prog 25=.pointer (some ⟨2,25,none⟩):=by kernel_rfl
 rw[k] at b;unfold Kt.ET;simpa using World.var?_cell et b 0
def put:Obj→Obj
 | .cells _ t frozen=> .cells #[.iface 165 (.agg #[.pointer (some ⟨2,25,none⟩)])] t frozen
 | o=>o
theorem laidWorld_met(os:Os)(args:Array Value):laidMetH prog laid (({ World.holding prog os ⟨#[],#[],[]⟩ with heap:=(World.holding prog os ⟨#[],#[],[]⟩).heap.modify 0 put }:World).forCall (fun _ _=>0) ⟨#[],args,[]⟩).memory:=
 laidMetH_of_parts (laidMet_nil _ _) (by kernel_rfl)
end Kk
end Go.Proofs.YtjcemlmlfoilmaaGreatDoor
