/- What the reference says of a place, of a letter, of a leaf that is seen. -/
import Derived.Test.YtiiiineipajhmaaJ2
namespace Go.Proofs.Ytiiiineipajhmaa
namespace Lp
set_option linter.unusedVariables false
open Go.RowKit Ka Kb La Bm

/- behind the letters: what is left of the test -/
theorem chk_let {s : ByteArray} (h12 : ¬ 12 < s.size) (hall : s.toList.all Pm.isLet = true) (h2 : 2 ≤ s.size) :
    Pm.chk s.toList = if ((s[s.size - 1]'(by omega)).toNat : Int) < 98 then 2 else if 105 < ((s[s.size - 1]'(by omega)).toNat : Int) then 2 else if (((s[s.size - 2]'(by omega)).toNat : Int) == 97) = true then 2 else 0 := by
  have hl := len_eq s
  have h1 := last_eq s (by omega)
  have hc := last2_eq s h2
  unfold Pm.chk
  rw [hl, if_neg h12, if_neg (by omega), hall, hc]
  have hw : Pm.isWho (Pm.whoOf s.toList) = (decide (98 ≤ ((s[s.size - 1]'(by omega)).toNat : Int)) && decide (((s[s.size - 1]'(by omega)).toNat : Int) ≤ 105)) := by
    unfold Pm.isWho Pm.whoOf
    rw [h1]
    rw [Bool.eq_iff_iff]
    simp
    omega
  rw [hw]
  generalize ((s[s.size - 1]'(by omega)).toNat : Int) = x
  generalize (((s[s.size - 2]'(by omega)).toNat : Int) == 97) = y
  by_cases hx1 : x < 98
  · rw [if_pos hx1, decide_eq_false (by omega)]; cases y <;> simp
  · rw [if_neg hx1, decide_eq_true (by omega)]
    by_cases hx2 : 105 < x
    · rw [if_pos hx2, decide_eq_false (by omega)]; cases y <;> simp
    · rw [if_neg hx2, decide_eq_true (by omega)]; cases y <;> simp

theorem seen_ref (s : ByteArray) (n : Int) (b : Bool) (w : World) :
    Calls Try.prog 14 #[.agg #[.string s, .int .i64 n, .bool b]] w fun e w' => e = .returned (.bool (isS (s, n, b))) ∧ Below w.heap.size w w' := by
  have H1 : Hid (n = 0 → isS (s, n, b) = false) := by intro h; unfold isS; rw [h]; rfl
  have H2 : Hid (isS (s, n, b) = (n != 0 && !b)) := rfl
  go_enter Try.func14, Try.ntmps14
  go_wp2
  all_goals
    go_ret
    refine ⟨ret_bool ?_, (Below.refl _ w).alloc (Nat.le_refl _) _⟩
    first
      | (rw [H1.out (by assumption)]; done)
      | (rw [H2.out]; done)

end Lp
end Go.Proofs.Ytiiiineipajhmaa
