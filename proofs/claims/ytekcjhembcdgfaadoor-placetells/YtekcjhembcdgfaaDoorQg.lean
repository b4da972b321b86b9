/- What the reference's Two answers. -/
import Derived.Test.YtekcjhembcdgfaaDoorQf
namespace Go.Proofs.YtekcjhembcdgfaaDoor
namespace Qg
set_option linter.unusedVariables false
open Go.RowKit Pa Pb Pc Pd Pe Qa Qb Qc Qd Qe Qf

set_option maxHeartbeats 1000000 in
theorem two_ref (a b : ByteArray) (w : World) (ha : a.size ≤ maxLen) (hb : b.size ≤ maxLen) :
    Calls Tryd.prog 11 #[.string a, .string b] w fun e w' => e = .returned (.int .i64 (Pm.sides a.toList b.toList)) ∧ w' = w := by
  cases ea : a.toList.isEmpty <;> cases eb : b.toList.isEmpty
  all_goals
    have fa := ea
    have fb := eb
    simp only [List.isEmpty_iff, List.isEmpty_eq_false_iff] at fa fb
  · by_cases h1 : Pm.chk a.toList = 0
    · by_cases h2 : Pm.chk b.toList = 0
      · cases h3 : Op.bytesLess a.toList b.toList
        · have H : Hid (Pm.sides a.toList b.toList = 3) := by unfold Hid Pm.sides; simp [fa, fb, h1, h2, h3]
          have Ha : Hid (Pm.chk a.toList = 0) := h1
          have Hb : Hid (Pm.chk b.toList = 0) := h2
          clear h1 h2 fa fb
          go_enter Tryd.func11, Tryd.ntmps11
          go_wp2_with fail
          refine (place_ref a _ ha).mono ?_
          rintro e w' ⟨rfl, hw⟩
          have hw2 := hw.symm; subst hw2; clear hw
          rw [Ha.out]
          go_wp2_with fail
          refine (place_ref b _ hb).mono ?_
          rintro e w' ⟨rfl, hw⟩
          have hw2 := hw.symm; subst hw2; clear hw
          rw [Hb.out]
          go_wp2_with fail
          go_ret
          exact ⟨ret_int H.out.symm, rfl⟩
        · have H : Hid (Pm.sides a.toList b.toList = 0) := by unfold Hid Pm.sides; simp [fa, fb, h1, h2, h3]
          have Ha : Hid (Pm.chk a.toList = 0) := h1
          have Hb : Hid (Pm.chk b.toList = 0) := h2
          clear h1 h2 fa fb
          go_enter Tryd.func11, Tryd.ntmps11
          go_wp2_with fail
          refine (place_ref a _ ha).mono ?_
          rintro e w' ⟨rfl, hw⟩
          have hw2 := hw.symm; subst hw2; clear hw
          rw [Ha.out]
          go_wp2_with fail
          refine (place_ref b _ hb).mono ?_
          rintro e w' ⟨rfl, hw⟩
          have hw2 := hw.symm; subst hw2; clear hw
          rw [Hb.out]
          go_wp2_with fail
          go_ret
          exact ⟨ret_int H.out.symm, rfl⟩
      · have H : Hid (Pm.sides a.toList b.toList = Pm.chk b.toList) := by unfold Hid Pm.sides; simp [fa, fb, h1, h2]
        have Ha : Hid (Pm.chk a.toList = 0) := h1
        have Hb : Hid (Pm.chk b.toList ≠ 0) := h2
        clear h1 h2 fa fb
        obtain ⟨cb, hcb⟩ : ∃ cb, Pm.chk b.toList = cb := ⟨_, rfl⟩
        have nb : (cb == 0) = false := by rw [beq_eq_false_iff_ne, ← hcb]; exact Hb.out
        have Hcb : Hid (Pm.chk b.toList = cb) := hcb
        clear hcb
        go_enter Tryd.func11, Tryd.ntmps11
        go_wp2_with fail
        refine (place_ref a _ ha).mono ?_
        rintro e w' ⟨rfl, hw⟩
        have hw2 := hw.symm; subst hw2; clear hw
        rw [Ha.out]
        go_wp2_with fail
        refine (place_ref b _ hb).mono ?_
        rintro e w' ⟨rfl, hw⟩
        have hw2 := hw.symm; subst hw2; clear hw
        rw [Hcb.out]
        go_wp2_with fail
        refine (place_ref b _ hb).mono ?_
        rintro e w' ⟨rfl, hw⟩
        have hw2 := hw.symm; subst hw2; clear hw
        rw [Hcb.out]
        go_wp2_with fail
        go_ret
        exact ⟨ret_int (by rw [H.out, Hcb.out]), rfl⟩
    · have H : Hid (Pm.sides a.toList b.toList = Pm.chk a.toList) := by unfold Hid Pm.sides; simp [fa, h1]
      have Ha : Hid (Pm.chk a.toList ≠ 0) := h1
      clear h1 fa fb
      obtain ⟨ca, hca⟩ : ∃ ca, Pm.chk a.toList = ca := ⟨_, rfl⟩
      have na : (ca == 0) = false := by rw [beq_eq_false_iff_ne, ← hca]; exact Ha.out
      have Hca : Hid (Pm.chk a.toList = ca) := hca
      clear hca
      go_enter Tryd.func11, Tryd.ntmps11
      go_wp2_with fail
      refine (place_ref a _ ha).mono ?_
      rintro e w' ⟨rfl, hw⟩
      have hw2 := hw.symm; subst hw2; clear hw
      rw [Hca.out]
      go_wp2_with fail
      refine (place_ref a _ ha).mono ?_
      rintro e w' ⟨rfl, hw⟩
      have hw2 := hw.symm; subst hw2; clear hw
      rw [Hca.out]
      go_wp2_with fail
      go_ret
      exact ⟨ret_int (by rw [H.out, Hca.out]), rfl⟩
  · by_cases h1 : Pm.chk a.toList = 0
    · have H : Hid (Pm.sides a.toList b.toList = 0) := by unfold Hid Pm.sides; simp [fa, fb, h1]
      have Ha : Hid (Pm.chk a.toList = 0) := h1
      clear h1 fa fb
      go_enter Tryd.func11, Tryd.ntmps11
      go_wp2_with fail
      refine (place_ref a _ ha).mono ?_
      rintro e w' ⟨rfl, hw⟩
      have hw2 := hw.symm; subst hw2; clear hw
      rw [Ha.out]
      go_wp2_with fail
      go_ret
      exact ⟨ret_int H.out.symm, rfl⟩
    · have H : Hid (Pm.sides a.toList b.toList = Pm.chk a.toList) := by unfold Hid Pm.sides; simp [fa, h1]
      have Ha : Hid (Pm.chk a.toList ≠ 0) := h1
      clear h1 fa fb
      obtain ⟨ca, hca⟩ : ∃ ca, Pm.chk a.toList = ca := ⟨_, rfl⟩
      have na : (ca == 0) = false := by rw [beq_eq_false_iff_ne, ← hca]; exact Ha.out
      have Hca : Hid (Pm.chk a.toList = ca) := hca
      clear hca
      go_enter Tryd.func11, Tryd.ntmps11
      go_wp2_with fail
      refine (place_ref a _ ha).mono ?_
      rintro e w' ⟨rfl, hw⟩
      have hw2 := hw.symm; subst hw2; clear hw
      rw [Hca.out]
      go_wp2_with fail
      refine (place_ref a _ ha).mono ?_
      rintro e w' ⟨rfl, hw⟩
      have hw2 := hw.symm; subst hw2; clear hw
      rw [Hca.out]
      go_wp2_with fail
      go_ret
      exact ⟨ret_int (by rw [H.out, Hca.out]), rfl⟩
  · by_cases h2 : Pm.chk b.toList = 0
    · have H : Hid (Pm.sides a.toList b.toList = 0) := by unfold Hid Pm.sides; simp [fa, fb, h2]
      have Hb : Hid (Pm.chk b.toList = 0) := h2
      clear h2 fa fb
      go_enter Tryd.func11, Tryd.ntmps11
      go_wp2_with fail
      refine (place_ref b _ hb).mono ?_
      rintro e w' ⟨rfl, hw⟩
      have hw2 := hw.symm; subst hw2; clear hw
      rw [Hb.out]
      go_wp2_with fail
      go_ret
      exact ⟨ret_int H.out.symm, rfl⟩
    · have H : Hid (Pm.sides a.toList b.toList = Pm.chk b.toList) := by unfold Hid Pm.sides; simp [fa, fb, h2]
      have Hb : Hid (Pm.chk b.toList ≠ 0) := h2
      clear h2 fa fb
      obtain ⟨cb, hcb⟩ : ∃ cb, Pm.chk b.toList = cb := ⟨_, rfl⟩
      have nb : (cb == 0) = false := by rw [beq_eq_false_iff_ne, ← hcb]; exact Hb.out
      have Hcb : Hid (Pm.chk b.toList = cb) := hcb
      clear hcb
      go_enter Tryd.func11, Tryd.ntmps11
      go_wp2_with fail
      refine (place_ref b _ hb).mono ?_
      rintro e w' ⟨rfl, hw⟩
      have hw2 := hw.symm; subst hw2; clear hw
      rw [Hcb.out]
      go_wp2_with fail
      refine (place_ref b _ hb).mono ?_
      rintro e w' ⟨rfl, hw⟩
      have hw2 := hw.symm; subst hw2; clear hw
      rw [Hcb.out]
      go_wp2_with fail
      go_ret
      exact ⟨ret_int (by rw [H.out, Hcb.out]), rfl⟩
  · have H : Hid (Pm.sides a.toList b.toList = 0) := by unfold Hid Pm.sides; simp [fa, fb]
    clear fa fb
    go_enter Tryd.func11, Tryd.ntmps11
    go_wp2_with fail
    go_ret
    exact ⟨ret_int H.out.symm, rfl⟩

end Qg
end Go.Proofs.YtekcjhembcdgfaaDoor
