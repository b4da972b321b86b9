/- What the small functions of package book answer: isLetter, isSeen, checkLeaf, Check, checkWith. -/
import Derived.Test.YtaefoieoachdfaaLa
import Derived.Deep.QuietTactic
import Derived.BigQuiet
namespace Go.Proofs.Ytaefoieoachdfaa
namespace Lb
set_option linter.unusedVariables false
open Go.ChangeShapes Go.WideShapes Go.ChangeAt Go.RowKit Bm Ka Kb La

theorem isLetter_any (n : Int) (w : World) :
    Calls Try.prog 20 #[.int .i64 n] w fun e w' => e = .returned (.bool (isL n)) ∧ w' = w := by
  go_enter Try.func20, Try.ntmps20
  go_wp2
  all_goals
    go_ret
    exact ⟨ret_bool (by first | (simp [isL, *]; done) | (simp only [isL]; rw [decide_eq_false (by omega)]; rfl)), rfl⟩

theorem isSeen_any (s : ByteArray) (n : Int) (b : Bool) (w : World) :
    Calls Try.prog 30 #[.agg #[.string s, .int .i64 n, .bool b]] w fun e w' => e = .returned (.bool (isS (s, n, b))) ∧ Below w.heap.size w w' := by
  have H1 : Hid (n = 0 → isS (s, n, b) = false) := by intro h; unfold isS; rw [h]; rfl
  have H2 : Hid (isS (s, n, b) = (n != 0 && !b)) := rfl
  go_enter Try.func30, Try.ntmps30
  go_wp2
  all_goals
    go_ret
    refine ⟨ret_bool ?_, (Below.refl _ w).alloc (Nat.le_refl _) _⟩
    first
      | (rw [H1.out (by assumption)]; done)
      | (rw [H2.out]; done)

theorem checkLeaf_any (s : ByteArray) (n : Int) (b : Bool) (w : World) (hs : s.size ≤ maxLen) :
    Calls Try.prog 42 #[.agg #[.string s, .int .i64 n, .bool b]] w fun e w' => e = .returned (errV (leafE (s, n, b))) ∧ Below w.heap.size w w' := by
  have C := fun w => check_any s w hs
  by_cases h0 : Pm.chk s.toList = 0
  · rw [h0, errV_zero] at C
    by_cases hn0 : n = 0
    · subst hn0
      cases b
      · have HE : Hid (leafE (s, 0, false) = 3) := by unfold Hid leafE; rw [if_neg (by simpa using h0), if_neg (fun h => h.1 rfl), if_pos ⟨rfl, rfl⟩]
        clear h0
        go_enter Try.func42, Try.ntmps42
        go_wp2_with (go_at_call 39; refine (C _).mono ?_; rintro e w' ⟨rfl, hw⟩; have hw2 := hw.symm; subst hw2; clear hw)
        go_ret
        exact ⟨by rw [HE.out]; rfl, (Below.refl _ w).alloc (Nat.le_refl _) _⟩
      · have HE : Hid (leafE (s, 0, true) = 0) := leafE_zero.2 ⟨h0, Or.inl rfl, Or.inr rfl⟩
        clear h0
        go_enter Try.func42, Try.ntmps42
        go_wp2_with (go_at_call 39; refine (C _).mono ?_; rintro e w' ⟨rfl, hw⟩; have hw2 := hw.symm; subst hw2; clear hw)
        go_ret
        exact ⟨by rw [HE.out]; rfl, (Below.refl _ w).alloc (Nat.le_refl _) _⟩
    · have hnb : (n != 0) = true := by simpa using hn0
      cases hl : isL n
      · have HE : Hid (leafE (s, n, b) = 1) := by unfold Hid leafE; rw [if_neg (by simpa using h0), if_pos ⟨hn0, hl⟩]
        have HL : Hid (isL n = false) := hl
        clear h0 hl
        go_enter Try.func42, Try.ntmps42
        go_wp2_with (first | (go_at_call 39; refine (C _).mono ?_; rintro e w' ⟨rfl, hw⟩; have hw2 := hw.symm; subst hw2; clear hw) | (go_at_call 20; refine (isLetter_any n _).mono ?_; rintro e w' ⟨rfl, hw⟩; have hw2 := hw.symm; subst hw2; clear hw; rw [HL.out]))
        go_ret
        exact ⟨by rw [HE.out]; rfl, (Below.refl _ w).alloc (Nat.le_refl _) _⟩
      · have HE : Hid (leafE (s, n, b) = 0) := leafE_zero.2 ⟨h0, Or.inr hl, Or.inl hn0⟩
        have HL : Hid (isL n = true) := hl
        clear h0 hl
        go_enter Try.func42, Try.ntmps42
        go_wp2_with (first | (go_at_call 39; refine (C _).mono ?_; rintro e w' ⟨rfl, hw⟩; have hw2 := hw.symm; subst hw2; clear hw) | (go_at_call 20; refine (isLetter_any n _).mono ?_; rintro e w' ⟨rfl, hw⟩; have hw2 := hw.symm; subst hw2; clear hw; rw [HL.out]))
        go_ret
        exact ⟨by rw [HE.out]; rfl, (Below.refl _ w).alloc (Nat.le_refl _) _⟩
  · have HE : Hid (leafE (s, n, b) = Pm.chk s.toList) := by unfold Hid leafE; rw [if_pos h0]
    obtain ⟨k, hk⟩ : ∃ k, k = Pm.chk s.toList := ⟨_, rfl⟩
    have HV : Hid (errV (Pm.chk s.toList) = .iface 59 (.int .i64 k)) := by rw [hk]; exact errV_ne h0
    have C2 : ∀ w, Calls Try.prog 39 #[.string s] w fun e w' => e = .returned (.iface 59 (.int .i64 k)) ∧ w' = w := by rw [← HV.out]; exact C
    clear h0 hk C
    go_enter Try.func42, Try.ntmps42
    go_wp2_with (go_at_call 39; refine (C2 _).mono ?_; rintro e w' ⟨rfl, hw⟩; have hw2 := hw.symm; subst hw2; clear hw)
    go_ret
    exact ⟨by rw [HE.out, HV.out]; rfl, (Below.refl _ w).alloc (Nat.le_refl _) _⟩

end Lb
end Go.Proofs.Ytaefoieoachdfaa
