/- What place.Check answers, at every input. -/
import Derived.Test.YtmenknbgmgnfhaaDoorKa
namespace Go.Proofs.YtmenknbgmgnfhaaDoor
namespace Kb
set_option linter.unusedVariables false
open Go.ChangeShapes Go.WideShapes Go.ChangeAt Go.RowKit Ka

theorem len_eq (s : ByteArray) : s.toList.length = s.size := by rw [ByteArray.toList_eq]; rfl

theorem ret_err {a b : Int} (h : a = b) (hb : b ≠ 0) : Ending.returned (.iface 36 (.int .i64 a)) = .returned (errV b) := by
  rw [errV, if_neg hb, h]
theorem ret_nil {b : Int} (hb : b = 0) : Ending.returned .nilIface = .returned (errV b) := by
  rw [errV, if_pos hb]

theorem last2_eq (s : ByteArray) (h : 2 ≤ s.size) : (s.toList.dropLast.getLast? == some 97) = (((s[s.size - 2]'(by omega)).toNat : Int) == 97) := by
  have h1 : s.toList.dropLast.getLast? = some (s[s.size - 2]'(by omega)) := by
    rw [ByteArray.toList_eq, List.getLast?_eq_getElem?, List.length_dropLast]
    have h3 : s.data.toList.length = s.size := rfl
    rw [List.getElem?_dropLast, if_pos (by rw [h3]; omega), List.getElem?_eq_getElem (by rw [h3]; omega)]
    have : s.data.toList.length - 1 - 1 = s.size - 2 := by rw [h3]; omega
    simp only [this]
    rfl
  rw [h1]
  generalize s[s.size - 2]'(by omega) = c
  rw [Bool.eq_iff_iff]
  simp only [beq_iff_eq, Option.some.injEq, ← UInt8.toNat_inj]
  constructor
  · intro h6; have : c.toNat = 97 := h6; omega
  · intro h6; show c.toNat = 97; omega

end Kb
end Go.Proofs.YtmenknbgmgnfhaaDoor
