/- What leafsame.Error answers of no error, and of an error of package api. -/
import Derived.Test.YtmenknbgmgnfhaaDoorKt
namespace Go.Proofs.YtmenknbgmgnfhaaDoor
namespace Kl
set_option linter.unusedVariables false
open Go.RowKit Ka Kt

theorem ET.below {w w' : World} (h : ET w) (hb : Below w.heap.size w w') : ET w' := by
  unfold ET at h ⊢
  have hlt : 0 < w.heap.size := by
    rcases Nat.lt_or_ge 0 w.heap.size with h2 | h2
    · exact h2
    · simp [World.cell?, Array.getElem?_eq_none h2] at h
  rw [hb.cell (p := ⟨0, 0, none⟩) hlt]
  exact h

theorem same_nil (k : Int) (w : World) : Calls Tryd.prog 5 #[.nilIface, .int .i64 k] w fun e w' => e = .returned (.bool ((0 : Int) == k)) ∧ w' = w := by
  go_enter Tryd.func5, Tryd.ntmps5
  go_wp2_with (go_at_call 16; refine (told_nil _).mono ?_; rintro e w' ⟨rfl, hw⟩; have hw2 := hw.symm; subst hw2; clear hw)
  go_ret
  exact ⟨rfl, rfl⟩

theorem same_err (n k : Int) (w : World) (hg : ET w) : Calls Tryd.prog 5 #[.iface 36 (.int .i64 n), .int .i64 k] w fun e w' => e = .returned (.bool (n == k)) ∧ Below w.heap.size w w' := by
  have HG : Hid (ET w) := hg
  clear hg
  go_enter Tryd.func5, Tryd.ntmps5
  go_wp2_with (go_at_call 16; refine (told_err _ _ HG.out).mono ?_; rintro e w' ⟨rfl, hbel⟩)
  go_ret
  exact ⟨rfl, hbel⟩

/- at once: of an error by its number, 0 for none -/
theorem same_any (n k : Int) (w : World) (hg : ET w) : Calls Tryd.prog 5 #[errV n, .int .i64 k] w fun e w' => e = .returned (.bool (n == k)) ∧ Below w.heap.size w w' := by
  by_cases h : n = 0
  · subst h
    rw [errV, if_pos rfl]
    refine (same_nil k w).mono ?_
    rintro e w' ⟨rfl, rfl⟩
    exact ⟨rfl, Below.refl _ _⟩
  · rw [errV, if_neg h]
    exact same_err n k w hg

end Kl
end Go.Proofs.YtmenknbgmgnfhaaDoor
