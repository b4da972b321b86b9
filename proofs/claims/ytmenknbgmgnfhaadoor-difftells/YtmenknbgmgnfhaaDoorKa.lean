/- What the small functions behind place.Check answer (a seat without the rest of package place). -/
import Derived.Test.YtmenknbgmgnfhaaDoorRows
import Derived.Test.YtmenknbgmgnfhaaDoorPm
import Derived.WalkKit
import Derived.WalkLawsBesides
import Derived.WalkSpells
import Derived.ProofKit
import Derived.OpenShut
namespace Go.Proofs.YtmenknbgmgnfhaaDoor
namespace Ka
set_option linter.unusedVariables false
open Go.ChangeShapes Go.WideShapes Go.ChangeAt Go.RowKit

theorem ret_bool {a b : Bool} (h : a = b) : Ending.returned (.bool a) = .returned (.bool b) := by rw [h]
theorem ret_int {k : IntKind} {a b : Int} (h : a = b) : Ending.returned (.int k a) = .returned (.int k b) := by rw [h]
/- an error of package api: nil for 0 -/
def errV (n : Int) : Value := if n = 0 then .nilIface else .iface 36 (.int .i64 n)

theorem last_eq (s : ByteArray) (h : 0 < s.size) : s.toList.getLast?.getD 0 = s[s.size - 1]'(by omega) := by
  rw [ByteArray.toList_eq, List.getLast?_eq_getElem?]
  have : s.data.toList.length = s.size := rfl
  rw [this, List.getElem?_eq_getElem (by rw [this]; omega)]
  rfl

theorem take_snoc (s : ByteArray) (k : Nat) (h : k < s.size) : s.toList.take (k + 1) = s.toList.take k ++ [s[k]] := by
  rw [ByteArray.toList_eq, List.take_succ_eq_append_getElem (by simpa using h)]; rfl
theorem isLet_iff (c : UInt8) : Pm.isLet c = (!(decide ((c.toNat : Int) < 97) || decide (122 < (c.toNat : Int)))) := by
  rw [Bool.eq_iff_iff]; simp [Pm.isLet]; omega

end Ka
end Go.Proofs.YtmenknbgmgnfhaaDoor
