/- The reference's All: where a part stands. -/
import Derived.Test.YtlmdchpbpgcfmaaGreatFi
import Derived.Test.YtlmdchpbpgcfmaaGreatJ2
import Derived.OwnWalk
import Derived.Laws.OwnMore
import Derived.Maps.AppendAt
namespace Go.Proofs.YtlmdchpbpgcfmaaGreat
namespace Fnn
set_option linter.unusedVariables false
set_option linter.unusedSimpArgs false
open Go.ChangeShapes Go.WideShapes Go.ChangeAt Go.RowKit Ka Kb Fi

theorem infoInt : (Tryz.prog.info? 3).map (fun i => (i.zero, i.size, i.bytes)) = some (some (.int .i64 0), 1, 8) := by kernel_rfl
def intsV (L : List Nat) : List Value := L.map fun (x : Nat) => Value.int .i64 (x : Int)
theorem list_extract (s : ByteArray) (i j : Nat) : (s.extract i j).toList = (s.toList.take j).drop i := by
  rw [ByteArray.toList_eq, ByteArray.toList_eq, ByteArray.data_extract, Array.toList_extract, List.extract_eq_take_drop]
  rw [List.drop_take]
theorem ext_at (t p : ByteArray) (i : Nat) (hpl : p.toList.length = p.size) : (((t.extract i (i + p.size)).toList == p.toList)) = isAt t.toList p.toList i := by
  unfold isAt
  rw [list_extract, hpl, List.drop_take]
  congr 2
  omega

end Fnn
end Go.Proofs.YtlmdchpbpgcfmaaGreat
