/- What the reference's small functions answer: Place, Who, Two, begins, fits, may. -/
import Derived.Test.YtekcjhembcdgfaaDoorPe
import Derived.Test.YtekcjhembcdgfaaDoorQm
namespace Go.Proofs.YtekcjhembcdgfaaDoor
namespace Qa
set_option linter.unusedVariables false
open Go.RowKit Pa Pb Pc Pd Pe

theorem begins_any (s t : ByteArray) (w : World) (hs : s.size ≤ maxLen) (ht : t.size ≤ maxLen) :
    Calls Tryd.prog 40 #[.string s, .string t] w fun e w' => e = .returned (.bool (s.toList.isPrefixOf t.toList)) ∧ w' = w := by
  unfold maxLen at ht hs
  go_enter Tryd.func40, Tryd.ntmps40
  go_wp2
  all_goals
    go_ret
    refine ⟨ret_bool ?_, rfl⟩
    first | exact pre_eq t s (by assumption) | exact pre_no t s (by assumption)

/- fits, for a text that is not empty, and stem -/
def fit (s a b : List UInt8) : Bool := (!(Op.bytesLess s a || s == a)) && (b.isEmpty || (Op.bytesLess s b && !(s.isPrefixOf b)))
theorem fit_stem (s a b : List UInt8) (h : s ≠ []) : Pm.stem s a b = (fit s a b && (s.getLast? != some 97)) := by
  unfold Pm.stem Pm.inside fit
  cases hb : b.isEmpty
  · cases h1 : (!(Op.bytesLess s a || s == a)) <;> cases h2 : Op.bytesLess s b <;> cases h3 : s.isPrefixOf b <;> cases h4 : (s.getLast? != some 97) <;> rfl
  · have : b = [] := by simpa using hb
    subst this
    have h3 : s.isPrefixOf [] = false := by cases s; exact absurd rfl h; rfl
    rw [h3]
    cases h1 : (!(Op.bytesLess s a || s == a)) <;> cases h4 : (s.getLast? != some 97) <;> rfl

theorem fits_any (s a b : ByteArray) (w : World) (hs : s.size ≤ maxLen) (hb : b.size ≤ maxLen) :
    Calls Tryd.prog 39 #[.string s, .string a, .string b] w fun e w' => e = .returned (.bool (fit s.toList a.toList b.toList)) ∧ w' = w := by
  cases h1 : Op.bytesLess s.toList a.toList <;> cases h2 : (s.toList == a.toList) <;> cases h3 : b.toList.isEmpty <;> cases h4 : Op.bytesLess s.toList b.toList <;> cases h5 : s.toList.isPrefixOf b.toList
  all_goals
    have H5 : Hid (s.toList.isPrefixOf b.toList = _) := h5
    clear h5
    go_enter Tryd.func39, Tryd.ntmps39
    go_wp2_with (go_at_call 40; refine (begins_any _ _ _ hs hb).mono ?_; rintro e w' ⟨rfl, hw⟩; have hw2 := hw.symm; subst hw2; clear hw; rw [H5.out])
    go_ret
    exact ⟨ret_bool (by unfold fit; rw [h1, h2, h3, h4, H5.out] <;> rfl), rfl⟩

theorem snoc_toList (x : ByteArray) (c : UInt8) : (x ++ (⟨#[c]⟩ : ByteArray)).toList = x.toList ++ [c] := by
  rw [ByteArray.toList_eq, ByteArray.toList_eq]
  show (x ++ (⟨#[c]⟩ : ByteArray)).data.toList = _
  rw [ByteArray.data_append]
  simp
theorem rep_succ (d : Nat) (c : UInt8) : Pm.rep (d + 1) c = Pm.rep d c ++ [c] := by
  unfold Pm.rep; rw [List.replicate_succ']

set_option maxHeartbeats 1000000 in
set_option maxRecDepth 100000 in
theorem may_any (s a b : ByteArray) (d : Nat) (n : Int) (w : World) (hn : n = s.size + d) (h20 : s.size + d ≤ 20) :
    Calls Tryd.prog 38 #[.string s, .int .i64 n, .string a, .string b] w fun e w' => e = .returned (.bool (Pm.mayN a.toList b.toList s.toList d)) ∧ w' = w := by
  have HN : Hid (n = s.size + d) := hn
  have hn0 : 0 ≤ n := by omega
  have hn20 : n ≤ 20 := by omega
  clear hn
  go_enter Tryd.func38, Tryd.ntmps38
  go_wp2
  go_loop [9, 10] (fun lo hi => ∃ (j : Nat) (L H : ByteArray), j ≤ d ∧ lo = .string L ∧ hi = .string H ∧ L.size = s.size + j ∧ H.size = s.size + j ∧ Hid (L.toList = s.toList ++ Pm.rep j 97) ∧ Hid (H.toList = s.toList ++ Pm.rep j 122))
    (fun lo _ => 20 - (match lo with | .string L => L.size | _ => 0))
  case atStart => exact ⟨0, s, s, by omega, rfl, rfl, rfl, rfl, by unfold Hid Pm.rep; simp, by unfold Hid Pm.rep; simp⟩
  case round =>
    obtain ⟨j, L, H, hj, rfl, rfl, hL, hH, HL, HH⟩ := hrel
    have hLn : L.size ≤ 20 := by omega
    have hHn : H.size ≤ 20 := by omega
    by_cases hlt : j < d
    · have hc : (L.size : Int) < n := by have := HN.out; omega
      have HLs : Hid (L.size = s.size + j) := hL
      have HHs : Hid (H.size = s.size + j) := hH
      have hL1 : (L ++ (⟨#[97]⟩ : ByteArray)).size = L.size + 1 := by rw [ByteArray.size_append]; rfl
      have hH1 : (H ++ (⟨#[122]⟩ : ByteArray)).size = H.size + 1 := by rw [ByteArray.size_append]; rfl
      have HL1 : Hid ((L ++ (⟨#[97]⟩ : ByteArray)).size = L.size + 1) := hL1
      have HH1 : Hid ((H ++ (⟨#[122]⟩ : ByteArray)).size = H.size + 1) := hH1
      clear hL hH hL1 hH1
      go_wp2
      go_round
      case rel => exact ⟨j + 1, _, _, by omega, rfl, rfl, by rw [HL1.out, HLs.out]; omega, by rw [HH1.out, HHs.out]; omega, by unfold Hid; rw [snoc_toList, HL.out, rep_succ, List.append_assoc], by unfold Hid; rw [snoc_toList, HH.out, rep_succ, List.append_assoc]⟩
      case measure =>
        have h2 := HLs.out
        show 20 - (L ++ (⟨#[97]⟩ : ByteArray)).size < 20 - L.size
        rw [HL1.out]
        omega
    · have hjd : j = d := by omega
      have hc : ¬ (L.size : Int) < n := by have := HN.out; omega
      have HV : Hid (Pm.mayN a.toList b.toList s.toList d = ((!(Op.bytesLess H.toList a.toList || H.toList == a.toList)) && (b.toList.isEmpty || Op.bytesLess L.toList b.toList))) := by
        unfold Hid Pm.mayN; rw [HL.out, HH.out, hjd]
      clear hL hH hjd
      cases h1 : Op.bytesLess H.toList a.toList <;> cases h2 : (H.toList == a.toList) <;> cases h3 : b.toList.isEmpty
      all_goals
        go_wp2
        go_ret
        exact ⟨ret_bool (by rw [HV.out, h1, h2, h3] <;> rfl), rfl⟩

end Qa
end Go.Proofs.YtekcjhembcdgfaaDoor
