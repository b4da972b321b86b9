/- What the reference's many answers: how many stems of n letters begin so. -/
import Derived.Test.YtekcjhembcdgfaaDoorQb
namespace Go.Proofs.YtekcjhembcdgfaaDoor
namespace Qc
set_option linter.unusedVariables false
open Go.RowKit Pa Pb Pc Pd Pe Qa Qb

set_option maxHeartbeats 1000000 in
set_option maxRecDepth 100000 in
theorem many_no (a b s : ByteArray) (n d : Nat) (w : World) (hn : s.size + d = n) (hn11 : n ≤ 11) (h : Pm.mayN a.toList b.toList s.toList d = false) :
    Calls Tryd.prog 25 #[.string s, .int .i64 n, .string a, .string b] w fun e w' => e = .returned (.int .i64 ((Pm.run a.toList b.toList s.toList d).length : Int)) ∧ w' = w := by
  have H0 : Hid ((Pm.run a.toList b.toList s.toList d).length = 0) := by unfold Hid; rw [Pm.run_none h]; rfl
  have H : Hid (Pm.mayN a.toList b.toList s.toList d = false) := h
  have HN : Hid (((n : Nat) : Int) = s.size + d) := by unfold Hid; omega
  clear h
  go_enter Tryd.func25, Tryd.ntmps25
  go_wp2_with (go_at_call 38; refine (may_any s a b d _ _ HN.out (by omega)).mono ?_; rintro e w' ⟨rfl, hw⟩; have hw2 := hw.symm; subst hw2; clear hw; rw [H.out])
  go_ret
  exact ⟨ret_int (by rw [H0.out]; rfl), rfl⟩

set_option maxHeartbeats 1000000 in
set_option maxRecDepth 100000 in
theorem many_zero (a b s : ByteArray) (n : Nat) (w : World) (hb : b.size ≤ maxLen) (hn : s.size = n) (hn1 : 1 ≤ n) (hn11 : n ≤ 11) (h : Pm.mayN a.toList b.toList s.toList 0 = true) :
    Calls Tryd.prog 25 #[.string s, .int .i64 n, .string a, .string b] w fun e w' => e = .returned (.int .i64 ((Pm.run a.toList b.toList s.toList 0).length : Int)) ∧ w' = w := by
  have hne : s.toList ≠ [] := by intro e; have := len_eq s; rw [e] at this; simp at this; omega
  have hlast := last_ne s (by omega)
  have hfs := fit_stem s.toList a.toList b.toList hne
  subst hn
  have HN : Hid (((s.size : Nat) : Int) = s.size + (0 : Nat)) := by unfold Hid; omega
  have H : Hid (Pm.mayN a.toList b.toList s.toList 0 = true) := h
  have hsm : s.size ≤ maxLen := by unfold maxLen; omega
  have hbq : ((s.size : Int) == (s.size : Int)) = true := by simp
  cases hf : fit s.toList a.toList b.toList
  · have H0 : Hid ((Pm.run a.toList b.toList s.toList 0).length = 0) := by unfold Hid; rw [Pm.run_zero, hfs, hf]; rfl
    have HF : Hid (fit s.toList a.toList b.toList = false) := hf
    clear h hf hfs hlast hne
    go_enter Tryd.func25, Tryd.ntmps25
    go_wp2_with (first | (go_at_call 38; refine (may_any s a b 0 _ _ HN.out (by omega)).mono ?_; rintro e w' ⟨rfl, hw⟩; have hw2 := hw.symm; subst hw2; clear hw; rw [H.out]) | (go_at_call 39; refine (fits_any s a b _ hsm hb).mono ?_; rintro e w' ⟨rfl, hw⟩; have hw2 := hw.symm; subst hw2; clear hw; rw [HF.out]))
    go_ret
    exact ⟨ret_int (by rw [H0.out]; rfl), rfl⟩
  · have hq0 : s.size - 1 < s.size := by omega
    cases hq : (((s[s.size - 1]'hq0).toNat : Int) != 97)
    · have H0 : Hid ((Pm.run a.toList b.toList s.toList 0).length = 0) := by unfold Hid; rw [Pm.run_zero, hfs, hf, hlast, hq]; rfl
      have HF : Hid (fit s.toList a.toList b.toList = true) := hf
      clear h hf hfs hlast hne
      go_enter Tryd.func25, Tryd.ntmps25
      go_wp2_with (first | (go_at_call 38; refine (may_any s a b 0 _ _ HN.out (by omega)).mono ?_; rintro e w' ⟨rfl, hw⟩; have hw2 := hw.symm; subst hw2; clear hw; rw [H.out]) | (go_at_call 39; refine (fits_any s a b _ hsm hb).mono ?_; rintro e w' ⟨rfl, hw⟩; have hw2 := hw.symm; subst hw2; clear hw; rw [HF.out]))
      go_ret
      exact ⟨ret_int (by rw [H0.out]; rfl), rfl⟩
    · have H0 : Hid ((Pm.run a.toList b.toList s.toList 0).length = 1) := by unfold Hid; rw [Pm.run_zero, hfs, hf, hlast, hq]; rfl
      have HF : Hid (fit s.toList a.toList b.toList = true) := hf
      clear h hf hfs hlast hne
      go_enter Tryd.func25, Tryd.ntmps25
      go_wp2_with (first | (go_at_call 38; refine (may_any s a b 0 _ _ HN.out (by omega)).mono ?_; rintro e w' ⟨rfl, hw⟩; have hw2 := hw.symm; subst hw2; clear hw; rw [H.out]) | (go_at_call 39; refine (fits_any s a b _ hsm hb).mono ?_; rintro e w' ⟨rfl, hw⟩; have hw2 := hw.symm; subst hw2; clear hw; rw [HF.out]))
      go_ret
      exact ⟨ret_int (by rw [H0.out]; rfl), rfl⟩

end Qc
end Go.Proofs.YtekcjhembcdgfaaDoor
