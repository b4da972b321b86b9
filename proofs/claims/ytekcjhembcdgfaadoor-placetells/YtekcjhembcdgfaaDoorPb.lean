/- What Check, Who and checkSides of package place answer, at every input. -/
import Derived.Test.YtekcjhembcdgfaaDoorPa
namespace Go.Proofs.YtekcjhembcdgfaaDoor
namespace Pb
set_option linter.unusedVariables false
open Go.ChangeShapes Go.WideShapes Go.ChangeAt Go.RowKit Pa

theorem len_eq (s : ByteArray) : s.toList.length = s.size := by rw [ByteArray.toList_eq]; rfl

theorem ret_err {a b : Int} (h : a = b) (hb : b ≠ 0) : Ending.returned (.iface 47 (.int .i64 a)) = .returned (errV b) := by
  rw [errV, if_neg hb, h]
theorem ret_nil {b : Int} (hb : b = 0) : Ending.returned .nilIface = .returned (errV b) := by
  rw [errV, if_pos hb]

theorem last2_eq (s : ByteArray) (h : 2 ≤ s.size) : (s.toList.dropLast.getLast? == some 97) = (((s[s.size - 2]'(by omega)).toNat : Int) == 97) := by
  have h1 : s.toList.dropLast.getLast? = some (s[s.size - 2]'(by omega)) := by
    rw [ByteArray.toList_eq, List.getLast?_eq_getElem?, List.length_dropLast]
    have h3 : s.data.toList.length = s.size := rfl
    rw [List.getElem?_dropLast, if_pos (by rw [h3]; omega), List.getElem?_eq_getElem (by rw [h3]; omega)]
    have : s.data.toList.length - 1 - 1 = s.size - 2 := by rw [h3]; omega
    simp only [this]
    rfl
  rw [h1]
  generalize s[s.size - 2]'(by omega) = c
  rw [Bool.eq_iff_iff]
  simp only [beq_iff_eq, Option.some.injEq, ← UInt8.toNat_inj]
  constructor
  · intro h6; have : c.toNat = 97 := h6; omega
  · intro h6; show c.toNat = 97; omega

set_option maxHeartbeats 400000 in
theorem check_any (s : ByteArray) (w : World) (hs : s.size ≤ maxLen) :
    Calls Tryd.prog 8 #[.string s] w fun e w' => e = .returned (errV (Pm.chk s.toList)) ∧ w' = w := by
  have hm := hs
  unfold maxLen at hm
  have hl := len_eq s
  by_cases h1 : 12 < s.size
  · have H : Hid (Pm.chk s.toList = 4) := by unfold Hid Pm.chk; rw [hl, if_pos h1]
    clear hl
    go_enter Tryd.func8, Tryd.ntmps8
    go_wp2
    go_ret
    exact ⟨ret_err H.out.symm (by rw [H.out]; decide), rfl⟩
  by_cases h2 : s.size < 2
  · have H : Hid (Pm.chk s.toList = 2) := by unfold Hid Pm.chk; rw [hl, if_neg h1, if_pos h2]
    clear hl
    go_enter Tryd.func8, Tryd.ntmps8
    go_wp2
    go_ret
    exact ⟨ret_err H.out.symm (by rw [H.out]; decide), rfl⟩
  cases h3 : s.toList.all Pm.isLet
  · have H : Hid (Pm.chk s.toList = 2) := by unfold Hid Pm.chk; rw [hl, if_neg h1, if_neg h2, h3]; rfl
    have H3 : Hid (s.toList.all Pm.isLet = false) := h3
    clear hl
    go_enter Tryd.func8, Tryd.ntmps8
    go_wp2_with (go_at_call 22; refine (areLetters_any _ _ hs).mono ?_; rintro e w' ⟨rfl, rfl⟩; rw [H3.out])
    go_ret
    exact ⟨ret_err H.out.symm (by rw [H.out]; decide), rfl⟩
  have H3 : Hid (s.toList.all Pm.isLet = true) := h3
  have hc := last2_eq s (by omega)
  have hq : s.size - 2 < s.size := by clear hl hc; omega
  cases h4 : (((s[s.size - 2]'hq).toNat : Int) == 97)
  · rw [h4] at hc
    cases h5 : Pm.isWho (Pm.whoOf s.toList)
    · have H : Hid (Pm.chk s.toList = 2) := by unfold Hid Pm.chk; rw [hl, if_neg h1, if_neg h2, h3, hc, h5]; rfl
      have H5 : Hid (Pm.isWho (Pm.whoOf s.toList) = false) := h5
      clear hl hc h3 h5
      go_enter Tryd.func8, Tryd.ntmps8
      go_wp2_with (first | (go_at_call 22; refine (areLetters_any _ _ hs).mono ?_; rintro e w' ⟨rfl, rfl⟩; rw [H3.out]) | (go_at_call 24; refine (authorOf_any _ _ (by omega) hs).mono ?_; rintro e w' ⟨rfl, rfl⟩) | (go_at_call 23; refine (isAuthor_any _ _).mono ?_; rintro e w' ⟨rfl, rfl⟩; rw [H5.out]))
      go_ret
      exact ⟨ret_err H.out.symm (by rw [H.out]; decide), rfl⟩
    · have H : Hid (Pm.chk s.toList = 0) := by unfold Hid Pm.chk; rw [hl, if_neg h1, if_neg h2, h3, hc, h5]; rfl
      have H5 : Hid (Pm.isWho (Pm.whoOf s.toList) = true) := h5
      clear hl hc h3 h5
      go_enter Tryd.func8, Tryd.ntmps8
      go_wp2_with (first | (go_at_call 22; refine (areLetters_any _ _ hs).mono ?_; rintro e w' ⟨rfl, rfl⟩; rw [H3.out]) | (go_at_call 24; refine (authorOf_any _ _ (by omega) hs).mono ?_; rintro e w' ⟨rfl, rfl⟩) | (go_at_call 23; refine (isAuthor_any _ _).mono ?_; rintro e w' ⟨rfl, rfl⟩; rw [H5.out]))
      go_ret
      exact ⟨ret_nil H.out, rfl⟩
  · rw [h4] at hc
    have H : Hid (Pm.chk s.toList = 2) := by unfold Hid Pm.chk; rw [hl, if_neg h1, if_neg h2, h3, hc]; rfl
    clear hl hc h3
    go_enter Tryd.func8, Tryd.ntmps8
    go_wp2_with (first | (go_at_call 22; refine (areLetters_any _ _ hs).mono ?_; rintro e w' ⟨rfl, rfl⟩; rw [H3.out]))
    go_ret
    exact ⟨ret_err H.out.symm (by rw [H.out]; decide), rfl⟩

theorem who_any (s : ByteArray) (w : World) (hs : s.size ≤ maxLen) :
    Calls Tryd.prog 10 #[.string s] w fun e w' => e = .returned (.tuple #[.int .i64 (Pm.whoR s.toList), errV (Pm.chk s.toList)]) ∧ w' = w := by
  by_cases h : Pm.chk s.toList = 0
  · have hz : 0 < s.size := by
      rcases Nat.eq_zero_or_pos s.size with h0 | h0
      · have hl := len_eq s
        rw [h0] at hl
        unfold Pm.chk at h
        rw [hl] at h
        simp at h
      · exact h0
    have H : Hid (Pm.chk s.toList = 0) := h
    clear h
    go_enter Tryd.func10, Tryd.ntmps10
    go_wp2_with (first | (go_at_call 8; refine (check_any _ _ hs).mono ?_; rintro e w' ⟨rfl, rfl⟩; rw [H.out, errV, if_pos rfl]) | (go_at_call 24; refine (authorOf_any _ _ hz hs).mono ?_; rintro e w' ⟨rfl, rfl⟩))
    go_ret2
    exact ⟨by rw [Pm.whoR, H.out, if_pos rfl, errV, if_pos rfl]; rfl, rfl⟩
  · have H : Hid (¬ Pm.chk s.toList = 0) := h
    clear h
    go_enter Tryd.func10, Tryd.ntmps10
    go_wp2_with (first | (go_at_call 8; refine (check_any _ _ hs).mono ?_; rintro e w' ⟨rfl, rfl⟩; rw [errV, if_neg H.out]))
    go_ret2
    exact ⟨by rw [Pm.whoR, if_neg H.out, errV, if_neg H.out]; rfl, rfl⟩

theorem check_ok (s : ByteArray) (w : World) (hs : s.size ≤ maxLen) (h : Pm.chk s.toList = 0) :
    Calls Tryd.prog 8 #[.string s] w fun e w' => e = .returned .nilIface ∧ w' = w := by
  refine (check_any s w hs).mono ?_
  rintro e w' ⟨rfl, rfl⟩
  exact ⟨by rw [errV, if_pos h], rfl⟩
theorem check_bad (s : ByteArray) (w : World) (hs : s.size ≤ maxLen) (h : Pm.chk s.toList ≠ 0) :
    Calls Tryd.prog 8 #[.string s] w fun e w' => e = .returned (.iface 47 (.int .i64 (Pm.chk s.toList))) ∧ w' = w := by
  refine (check_any s w hs).mono ?_
  rintro e w' ⟨rfl, rfl⟩
  exact ⟨by rw [errV, if_neg h], rfl⟩

set_option maxHeartbeats 1000000 in
theorem checkSides_any (a b : ByteArray) (w : World) (ha : a.size ≤ maxLen) (hb : b.size ≤ maxLen) :
    Calls Tryd.prog 41 #[.string a, .string b] w fun e w' => e = .returned (errV (Pm.sides a.toList b.toList)) ∧ w' = w := by
  cases ea : a.toList.isEmpty <;> cases eb : b.toList.isEmpty
  all_goals
    have fa := ea
    have fb := eb
    simp only [List.isEmpty_iff, List.isEmpty_eq_false_iff] at fa fb
  · by_cases h1 : Pm.chk a.toList = 0
    · by_cases h2 : Pm.chk b.toList = 0
      · cases h3 : Op.bytesLess a.toList b.toList
        · have H : Hid (Pm.sides a.toList b.toList = 3) := by unfold Hid Pm.sides; simp [fa, fb, h1, h2, h3]
          have Ha : Hid (Pm.chk a.toList = 0) := h1
          have Hb : Hid (Pm.chk b.toList = 0) := h2
          clear h1 h2 fa fb
          go_enter Tryd.func41, Tryd.ntmps41
          go_wp2_with fail
          refine (check_ok a _ ha Ha.out).mono ?_
          rintro e w' ⟨rfl, rfl⟩
          go_wp2_with fail
          refine (check_ok b _ hb Hb.out).mono ?_
          rintro e w' ⟨rfl, rfl⟩
          go_wp2_with fail
          go_ret
          exact ⟨ret_err H.out.symm (by rw [H.out]; decide), rfl⟩
        · have H : Hid (Pm.sides a.toList b.toList = 0) := by unfold Hid Pm.sides; simp [fa, fb, h1, h2, h3]
          have Ha : Hid (Pm.chk a.toList = 0) := h1
          have Hb : Hid (Pm.chk b.toList = 0) := h2
          clear h1 h2 fa fb
          go_enter Tryd.func41, Tryd.ntmps41
          go_wp2_with fail
          refine (check_ok a _ ha Ha.out).mono ?_
          rintro e w' ⟨rfl, rfl⟩
          go_wp2_with fail
          refine (check_ok b _ hb Hb.out).mono ?_
          rintro e w' ⟨rfl, rfl⟩
          go_wp2_with fail
          go_ret
          exact ⟨ret_nil H.out, rfl⟩
      · have H : Hid (Pm.sides a.toList b.toList = Pm.chk b.toList) := by unfold Hid Pm.sides; simp [fa, fb, h1, h2]
        have Ha : Hid (Pm.chk a.toList = 0) := h1
        have Hb : Hid (Pm.chk b.toList ≠ 0) := h2
        clear h1 h2 fa fb
        go_enter Tryd.func41, Tryd.ntmps41
        go_wp2_with fail
        refine (check_ok a _ ha Ha.out).mono ?_
        rintro e w' ⟨rfl, rfl⟩
        go_wp2_with fail
        refine (check_bad b _ hb Hb.out).mono ?_
        rintro e w' ⟨rfl, rfl⟩
        go_wp2_with fail
        go_ret
        exact ⟨ret_err H.out.symm (by rw [H.out]; exact Hb.out), rfl⟩
    · have H : Hid (Pm.sides a.toList b.toList = Pm.chk a.toList) := by unfold Hid Pm.sides; simp [fa, h1]
      have Ha : Hid (Pm.chk a.toList ≠ 0) := h1
      clear h1 fa fb
      go_enter Tryd.func41, Tryd.ntmps41
      go_wp2_with fail
      refine (check_bad a _ ha Ha.out).mono ?_
      rintro e w' ⟨rfl, rfl⟩
      go_wp2_with fail
      go_ret
      exact ⟨ret_err H.out.symm (by rw [H.out]; exact Ha.out), rfl⟩
  · by_cases h1 : Pm.chk a.toList = 0
    · have H : Hid (Pm.sides a.toList b.toList = 0) := by unfold Hid Pm.sides; simp [fa, fb, h1]
      have Ha : Hid (Pm.chk a.toList = 0) := h1
      clear h1 fa fb
      go_enter Tryd.func41, Tryd.ntmps41
      go_wp2_with fail
      refine (check_ok a _ ha Ha.out).mono ?_
      rintro e w' ⟨rfl, rfl⟩
      go_wp2_with fail
      go_ret
      exact ⟨ret_nil H.out, rfl⟩
    · have H : Hid (Pm.sides a.toList b.toList = Pm.chk a.toList) := by unfold Hid Pm.sides; simp [fa, h1]
      have Ha : Hid (Pm.chk a.toList ≠ 0) := h1
      clear h1 fa fb
      go_enter Tryd.func41, Tryd.ntmps41
      go_wp2_with fail
      refine (check_bad a _ ha Ha.out).mono ?_
      rintro e w' ⟨rfl, rfl⟩
      go_wp2_with fail
      go_ret
      exact ⟨ret_err H.out.symm (by rw [H.out]; exact Ha.out), rfl⟩
  · by_cases h2 : Pm.chk b.toList = 0
    · have H : Hid (Pm.sides a.toList b.toList = 0) := by unfold Hid Pm.sides; simp [fa, fb, h2]
      have Hb : Hid (Pm.chk b.toList = 0) := h2
      clear h2 fa fb
      go_enter Tryd.func41, Tryd.ntmps41
      go_wp2_with fail
      refine (check_ok b _ hb Hb.out).mono ?_
      rintro e w' ⟨rfl, rfl⟩
      go_wp2_with fail
      go_ret
      exact ⟨ret_nil H.out, rfl⟩
    · have H : Hid (Pm.sides a.toList b.toList = Pm.chk b.toList) := by unfold Hid Pm.sides; simp [fa, fb, h2]
      have Hb : Hid (Pm.chk b.toList ≠ 0) := h2
      clear h2 fa fb
      go_enter Tryd.func41, Tryd.ntmps41
      go_wp2_with fail
      refine (check_bad b _ hb Hb.out).mono ?_
      rintro e w' ⟨rfl, rfl⟩
      go_wp2_with fail
      go_ret
      exact ⟨ret_err H.out.symm (by rw [H.out]; exact Hb.out), rfl⟩
  · have H : Hid (Pm.sides a.toList b.toList = 0) := by unfold Hid Pm.sides; simp [fa, fb]
    clear fa fb
    go_enter Tryd.func41, Tryd.ntmps41
    go_wp2_with fail
    go_ret
    exact ⟨ret_nil H.out, rfl⟩

end Pb
end Go.Proofs.YtekcjhembcdgfaaDoor
