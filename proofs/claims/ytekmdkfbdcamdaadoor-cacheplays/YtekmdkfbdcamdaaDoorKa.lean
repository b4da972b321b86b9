/- What the small functions behind place.Check answer (a seat without the rest of package place). -/
import Derived.Test.YtekmdkfbdcamdaaDoorRows
import Derived.Test.YtekmdkfbdcamdaaDoorPm
import Derived.WalkKit
import Derived.WalkLawsBesides
import Derived.WalkSpells
import Derived.ProofKit
import Derived.OpenShut
namespace Go.Proofs.YtekmdkfbdcamdaaDoor
namespace Ka
set_option linter.unusedVariables false
open Go.ChangeShapes Go.WideShapes Go.ChangeAt Go.RowKit

theorem ret_bool {a b : Bool} (h : a = b) : Ending.returned (.bool a) = .returned (.bool b) := by rw [h]
theorem ret_int {k : IntKind} {a b : Int} (h : a = b) : Ending.returned (.int k a) = .returned (.int k b) := by rw [h]
/- an error of package api: nil for 0 -/
def errV (n : Int) : Value := if n = 0 then .nilIface else .iface 48 (.int .i64 n)

theorem isAuthor_any (n : Int) (w : World) :
    Calls Tryd.prog 25 #[.int .i64 n] w fun e w' => e = .returned (.bool (Pm.isWho n)) ∧ w' = w := by
  go_enter Tryd.func25, Tryd.ntmps25
  go_wp2
  all_goals
    go_ret
    exact ⟨ret_bool (by first | (simp [Pm.isWho, *]; done) | (simp only [Pm.isWho]; rw [decide_eq_false (by omega)]; rfl)), rfl⟩

theorem last_eq (s : ByteArray) (h : 0 < s.size) : s.toList.getLast?.getD 0 = s[s.size - 1]'(by omega) := by
  rw [ByteArray.toList_eq, List.getLast?_eq_getElem?]
  have : s.data.toList.length = s.size := rfl
  rw [this, List.getElem?_eq_getElem (by rw [this]; omega)]
  rfl

theorem authorOf_any (s : ByteArray) (w : World) (h : 0 < s.size) (hs : s.size ≤ maxLen) :
    Calls Tryd.prog 26 #[.string s] w fun e w' => e = .returned (.int .i64 (Pm.whoOf s.toList)) ∧ w' = w := by
  have hl := last_eq s h
  have hb : (s[s.size - 1]'(by omega)).toNat < 256 := UInt8.toNat_lt _
  have H : Hid (Pm.whoOf s.toList = ((s[s.size - 1]'(by omega)).toNat : Int) - 97) := by
    unfold Pm.whoOf Hid; rw [hl]
  clear hl
  unfold maxLen at hs
  go_enter Tryd.func26, Tryd.ntmps26
  go_wp2
  go_ret
  refine ⟨ret_int ?_, rfl⟩
  rw [H.out]

theorem take_snoc (s : ByteArray) (k : Nat) (h : k < s.size) : s.toList.take (k + 1) = s.toList.take k ++ [s[k]] := by
  rw [ByteArray.toList_eq, List.take_succ_eq_append_getElem (by simpa using h)]; rfl
theorem isLet_iff (c : UInt8) : Pm.isLet c = (!(decide ((c.toNat : Int) < 97) || decide (122 < (c.toNat : Int)))) := by
  rw [Bool.eq_iff_iff]; simp [Pm.isLet]; omega

set_option maxHeartbeats 400000 in
theorem areLetters_any (s : ByteArray) (w : World) (hs : s.size ≤ maxLen) :
    Calls Tryd.prog 24 #[.string s] w fun e w' => e = .returned (.bool (s.toList.all Pm.isLet)) ∧ w' = w := by
  unfold maxLen at hs
  go_enter Tryd.func24, Tryd.ntmps24
  go_wp2
  go_loop [6] (fun i => ∃ k : Nat, k ≤ s.size ∧ i = .int .i64 k ∧ (s.toList.take k).all Pm.isLet = true) (fun i => s.size - (intOf i).toNat)
  case atStart => exact ⟨0, Nat.zero_le _, rfl, by simp⟩
  case round =>
    obtain ⟨k, hk, rfl, hall⟩ := hrel
    by_cases hlt : k < s.size
    · have ht := take_snoc s k hlt
      have hb : s[k].toNat < 256 := UInt8.toNat_lt _
      have HB : Hid (∀ c, s.toList.all c = ((s.toList.take (k+1)).all c && (s.toList.drop (k+1)).all c)) := by
        intro c; rw [← List.all_append, List.take_append_drop]
      have HA : Hid ((s.toList.take (k+1)).all Pm.isLet = Pm.isLet s[k]) := by
        unfold Hid; rw [ht, List.all_append, hall]; simp
      have HL : Hid (Pm.isLet s[k] = (!(decide ((s[k].toNat : Int) < 97) || decide (122 < (s[k].toNat : Int))))) := isLet_iff _
      clear ht hall
      by_cases h1 : (s[k].toNat : Int) < 97
      · go_wp2
        go_ret
        exact ⟨ret_bool (by rw [HB.out, HA.out, HL.out, decide_eq_true h1]; rfl), rfl⟩
      · by_cases h2 : 122 < (s[k].toNat : Int)
        · go_wp2
          go_ret
          exact ⟨ret_bool (by rw [HB.out, HA.out, HL.out, decide_eq_true h2, Bool.or_true]; rfl), rfl⟩
        · go_wp2
          go_round
          case rel => exact ⟨k + 1, by omega, by go_num, by rw [HA.out, HL.out, decide_eq_false h1, decide_eq_false h2]; rfl⟩
          case measure => simp [intOf]; omega
    · have HA : Hid (s.toList.all Pm.isLet = true) := by
        unfold Hid; rw [List.take_of_length_le (by rw [ByteArray.toList_eq]; show s.size ≤ k; omega)] at hall; exact hall
      clear hall
      go_wp2
      go_ret
      exact ⟨ret_bool HA.out.symm, rfl⟩

end Ka
end Go.Proofs.YtekmdkfbdcamdaaDoor
