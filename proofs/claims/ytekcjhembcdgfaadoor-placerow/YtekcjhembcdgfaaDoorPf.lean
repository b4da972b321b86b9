/- Between, Room and Who of package place, where there is no error and where there is one. -/
import Derived.Test.YtekcjhembcdgfaaDoorPe
import Derived.Test.YtekcjhembcdgfaaDoorPr
namespace Go.Proofs.YtekcjhembcdgfaaDoor
namespace Pf
set_option linter.unusedVariables false
open Go.RowKit Pa Pb Pc Pd Pe

theorem between_no (a b : ByteArray) (n : Int) (w : World) (ha : a.size ≤ maxLen) (hb : b.size ≤ maxLen) (h : Pm.betErr a.toList b.toList n ≠ 0) (k : Int) (hk : Pm.betErr a.toList b.toList n = k) :
    Calls Tryd.prog 15 #[.string a, .string b, .int .i64 n] w fun e w' => e = .returned (.tuple #[S (Pm.betText a.toList b.toList n), .iface 47 (.int .i64 k)]) ∧ Below w.heap.size w w' := by
  refine (between_any a b n w ha hb).mono ?_
  rintro e w' ⟨rfl, hb⟩
  exact ⟨by rw [errV, if_neg h, hk], hb⟩
theorem between_yes (a b : ByteArray) (n : Int) (w : World) (ha : a.size ≤ maxLen) (hb : b.size ≤ maxLen) (h : Pm.betErr a.toList b.toList n = 0) (p : ByteArray) (hp : p = ⟨(Pm.betText a.toList b.toList n).toArray⟩) :
    Calls Tryd.prog 15 #[.string a, .string b, .int .i64 n] w fun e w' => e = .returned (.tuple #[.string p, .nilIface]) ∧ Below w.heap.size w w' := by
  refine (between_any a b n w ha hb).mono ?_
  rintro e w' ⟨rfl, hb⟩
  exact ⟨by rw [errV, if_pos h, hp]; rfl, hb⟩
theorem bel {w w1 w2 : World} (h1 : Below w.heap.size w w1) (h2 : Below w1.heap.size w1 w2) : Below w.heap.size w w2 :=
  h1.trans (h2.mono h1.size)
theorem empty_toList : (⟨#[]⟩ : ByteArray).toList = [] := ByteArray.toList_mk []
theorem empty_size : (⟨#[]⟩ : ByteArray).size ≤ maxLen := by unfold maxLen; decide

end Pf
end Go.Proofs.YtekcjhembcdgfaaDoor
