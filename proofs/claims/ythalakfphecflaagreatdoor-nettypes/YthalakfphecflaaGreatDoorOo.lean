/- Ops that came in: they lie in memory. -/
import Derived.Test.YthalakfphecflaaGreatDoorJ7
import Derived.Deep.Strs
import Derived.ChangeSame
import Derived.ChangeOld
import Derived.Carry
namespace Go.Proofs.YthalakfphecflaaGreatDoor
namespace Oo
set_option linter.unusedVariables false
open Go.ChangeShapes Go.WideShapes Go.ChangeAt Go.RowKit Cm Ka Kb Na Om Oa Oz

theorem laidOut : laidOutB Tryz.prog = true := by kernel_rfl
theorem cellsS : Tryz.prog.cellsOf 9 = 1 := by kernel_rfl
/- an op by value -/
end Oo
end Go.Proofs.YthalakfphecflaaGreatDoor
