/- What each small function of package place answers, at every input, said by the functions of Pm. -/
import Derived.Test.YtekcjhembcdgfaaDoorRows
import Derived.Test.YtekcjhembcdgfaaDoorPm
import Derived.WalkKit
import Derived.WalkLawsBesides
import Derived.WalkSpells
import Derived.ProofKit
import Derived.OpenShut
namespace Go.Proofs.YtekcjhembcdgfaaDoor
namespace Pa
set_option linter.unusedVariables false
open Go.ChangeShapes Go.WideShapes Go.ChangeAt Go.RowKit

theorem ret_bool {a b : Bool} (h : a = b) : Ending.returned (.bool a) = .returned (.bool b) := by rw [h]
theorem ret_int {k : IntKind} {a b : Int} (h : a = b) : Ending.returned (.int k a) = .returned (.int k b) := by rw [h]
/- an error of package api: nil for 0 -/
def errV (n : Int) : Value := if n = 0 then .nilIface else .iface 47 (.int .i64 n)

theorem isAuthor_any (n : Int) (w : World) :
    Calls Tryd.prog 23 #[.int .i64 n] w fun e w' => e = .returned (.bool (Pm.isWho n)) ∧ w' = w := by
  go_enter Tryd.func23, Tryd.ntmps23
  go_wp2
  all_goals
    go_ret
    exact ⟨ret_bool (by first | (simp [Pm.isWho, *]; done) | (simp only [Pm.isWho]; rw [decide_eq_false (by omega)]; rfl)), rfl⟩

theorem last_eq (s : ByteArray) (h : 0 < s.size) : s.toList.getLast?.getD 0 = s[s.size - 1]'(by omega) := by
  rw [ByteArray.toList_eq, List.getLast?_eq_getElem?]
  have : s.data.toList.length = s.size := rfl
  rw [this, List.getElem?_eq_getElem (by rw [this]; omega)]
  rfl

theorem authorOf_any (s : ByteArray) (w : World) (h : 0 < s.size) (hs : s.size ≤ maxLen) :
    Calls Tryd.prog 24 #[.string s] w fun e w' => e = .returned (.int .i64 (Pm.whoOf s.toList)) ∧ w' = w := by
  have hl := last_eq s h
  have hb : (s[s.size - 1]'(by omega)).toNat < 256 := UInt8.toNat_lt _
  have H : Hid (Pm.whoOf s.toList = ((s[s.size - 1]'(by omega)).toNat : Int) - 97) := by
    unfold Pm.whoOf Hid; rw [hl]
  clear hl
  unfold maxLen at hs
  go_enter Tryd.func24, Tryd.ntmps24
  go_wp2
  go_ret
  refine ⟨ret_int ?_, rfl⟩
  rw [H.out]

theorem inside_no {t a b : List UInt8} (h : ¬(Op.bytesLess t a = false ∧ ¬t = a)) : false = Pm.inside t a b := by
  unfold Pm.inside
  by_cases h1 : Op.bytesLess t a = false
  · have h2 : t = a := by
      by_cases h3 : t = a
      · exact h3
      · exact absurd ⟨h1, h3⟩ h
    subst h2; simp
  · simp at h1; simp [h1]

theorem inside_yes {t a b : List UInt8} (h : Op.bytesLess t a = false ∧ ¬t = a) : (!t == a && (b.isEmpty || Op.bytesLess t b)) = Pm.inside t a b := by
  unfold Pm.inside; rw [h.1]; simp

theorem inside_all {t a b : List UInt8} (h : Op.bytesLess t a = false ∧ ¬t = a) (hb : b = []) : (!t == a) = Pm.inside t a b := by
  unfold Pm.inside; rw [h.1, hb]; simp

theorem isInside_any (t a b : ByteArray) (w : World) :
    Calls Tryd.prog 69 #[.string t, .string a, .string b] w fun e w' => e = .returned (.bool (Pm.inside t.toList a.toList b.toList)) ∧ w' = w := by
  go_enter Tryd.func69, Tryd.ntmps69
  go_wp2
  case _ =>
    go_ret
    exact ⟨ret_bool (inside_all (by assumption) (by assumption)), rfl⟩
  case _ =>
    go_ret
    exact ⟨ret_bool (inside_yes (by assumption)), rfl⟩
  case _ =>
    go_ret
    exact ⟨ret_bool (inside_no (by assumption)), rfl⟩

theorem pre_eq (t a : ByteArray) (h : a.size ≤ t.size) : ((t.extract 0 a.size).toList == a.toList) = a.toList.isPrefixOf t.toList := by
  have h1 : (t.extract 0 a.size).toList = t.toList.take a.toList.length := by
    rw [ByteArray.toList_eq, ByteArray.toList_eq, ByteArray.toList_eq, ByteArray.data_extract, Array.toList_extract, List.extract_eq_take_drop]
    show ((t.data.toList.drop 0).take (a.size - 0)) = t.data.toList.take a.data.toList.length
    rw [Nat.sub_zero, List.drop_zero]
    rfl
  rw [h1, Bool.eq_iff_iff, beq_iff_eq, List.isPrefixOf_iff_prefix]
  constructor
  · intro h2; rw [← h2]; exact List.take_prefix _ _
  · intro h2; exact (List.prefix_iff_eq_take.1 h2).symm

theorem pre_no (t a : ByteArray) (h : ¬ a.size ≤ t.size) : false = a.toList.isPrefixOf t.toList := by
  symm
  rw [Bool.eq_false_iff]
  intro h1
  have h2 := (List.isPrefixOf_iff_prefix.1 h1).length_le
  rw [ByteArray.toList_eq, ByteArray.toList_eq] at h2
  exact h h2

theorem hasPrefix0_any (t a : ByteArray) (w : World) (ht : t.size ≤ maxLen) (ha : a.size ≤ maxLen):
    Calls Tryd.prog 86 #[.string t, .string a] w fun e w' => e = .returned (.bool (a.toList.isPrefixOf t.toList)) ∧ w' = w := by
  unfold maxLen at ht ha
  go_enter Tryd.func86, Tryd.ntmps86
  go_wp2
  all_goals
    go_ret
    refine ⟨ret_bool ?_, rfl⟩
    first | exact pre_eq t a (by assumption) | exact pre_no t a (by assumption)

theorem hasPrefix_any (t a : ByteArray) (w : World) (ht : t.size ≤ maxLen) (ha : a.size ≤ maxLen):
    Calls Tryd.prog 70 #[.string t, .string a] w fun e w' => e = .returned (.bool (a.toList.isPrefixOf t.toList)) ∧ w' = w := by
  go_enter Tryd.func70, Tryd.ntmps70
  go_wp2_with (go_at_call 86; refine (hasPrefix0_any _ _ _ ht ha).mono ?_; rintro e w' ⟨rfl, rfl⟩)
  go_ret
  exact ⟨rfl, rfl⟩

theorem mayGrow_any (t a b : ByteArray) (w : World) (ht : t.size ≤ maxLen) (ha : a.size ≤ maxLen):
    Calls Tryd.prog 56 #[.string t, .string a, .string b] w fun e w' => e = .returned (.bool (Pm.may t.toList a.toList b.toList)) ∧ w' = w := by
  cases hin : Pm.inside t.toList a.toList b.toList
  all_goals
    go_enter Tryd.func56, Tryd.ntmps56
    go_wp2_with (first | (go_at_call 69; refine (isInside_any _ _ _ _).mono ?_; rintro e w' ⟨rfl, rfl⟩) | (go_at_call 70; refine (hasPrefix_any _ _ _ ha ht).mono ?_; rintro e w' ⟨rfl, rfl⟩))
    go_ret
    exact ⟨ret_bool (by simp [Pm.may, hin]), rfl⟩

theorem last_ne (s : ByteArray) (h : 0 < s.size) : (s.toList.getLast? != some 97) = (((s[s.size - 1]'(by omega)).toNat : Int) != 97) := by
  have h1 := last_eq s h
  have h2 : s.toList.getLast? = some (s.toList.getLast?.getD 0) := by
    cases h3 : s.toList.getLast? with
    | none =>
      rw [List.getLast?_eq_none_iff, ByteArray.toList_eq] at h3
      have : s.data.toList.length = s.size := rfl
      rw [h3] at this; simp at this; omega
    | some x => rfl
  rw [h2, h1]
  generalize s[s.size - 1]'(by omega) = c
  rw [Bool.eq_iff_iff]
  simp only [bne_iff_ne, ne_eq, Option.some.injEq, ← UInt8.toNat_inj]
  constructor
  · intro h5 h6; apply h5; show c.toNat = 97; omega
  · intro h5 h6; apply h5; have : c.toNat = 97 := h6; omega

theorem isStem_any (t a b : ByteArray) (w : World) (h0 : 0 < t.size) (ht : t.size ≤ maxLen) (hb : b.size ≤ maxLen):
    Calls Tryd.prog 55 #[.string t, .string a, .string b] w fun e w' => e = .returned (.bool (Pm.stem t.toList a.toList b.toList)) ∧ w' = w := by
  have hl := last_ne t h0
  have hm := ht
  unfold maxLen at hm
  cases hin : Pm.inside t.toList a.toList b.toList
  case false =>
    clear hl
    go_enter Tryd.func55, Tryd.ntmps55
    go_wp2_with (first | (go_at_call 69; refine (isInside_any _ _ _ _).mono ?_; rintro e w' ⟨rfl, rfl⟩) | (go_at_call 70; refine (hasPrefix_any _ _ _ hb ht).mono ?_; rintro e w' ⟨rfl, rfl⟩))
    go_ret
    exact ⟨ret_bool (by simp [Pm.stem, hin]), rfl⟩
  case true =>
    cases hq : (((t[t.size - 1]'(by omega)).toNat : Int) != 97)
    all_goals
      have H : Hid (Pm.stem t.toList a.toList b.toList = (((t[t.size - 1]'(by omega)).toNat : Int) != 97 && !(t.toList.isPrefixOf b.toList))) := by
        unfold Pm.stem Hid; rw [hin, hl]; rfl
      have HQ : Hid ((((t[t.size - 1]'(by omega)).toNat : Int) != 97) = _) := hq
      clear hl
      go_enter Tryd.func55, Tryd.ntmps55
      go_wp2_with (first | (go_at_call 69; refine (isInside_any _ _ _ _).mono ?_; rintro e w' ⟨rfl, rfl⟩) | (go_at_call 70; refine (hasPrefix_any _ _ _ hb ht).mono ?_; rintro e w' ⟨rfl, rfl⟩))
      go_ret
      exact ⟨ret_bool (by rw [H.out, HQ.out]; rfl), rfl⟩

theorem take_snoc (s : ByteArray) (k : Nat) (h : k < s.size) : s.toList.take (k + 1) = s.toList.take k ++ [s[k]] := by
  rw [ByteArray.toList_eq, List.take_succ_eq_append_getElem (by simpa using h)]; rfl
theorem isLet_iff (c : UInt8) : Pm.isLet c = (!(decide ((c.toNat : Int) < 97) || decide (122 < (c.toNat : Int)))) := by
  rw [Bool.eq_iff_iff]; simp [Pm.isLet]; omega

set_option maxHeartbeats 400000 in
theorem areLetters_any (s : ByteArray) (w : World) (hs : s.size ≤ maxLen) :
    Calls Tryd.prog 22 #[.string s] w fun e w' => e = .returned (.bool (s.toList.all Pm.isLet)) ∧ w' = w := by
  unfold maxLen at hs
  go_enter Tryd.func22, Tryd.ntmps22
  go_wp2
  go_loop [6] (fun i => ∃ k : Nat, k ≤ s.size ∧ i = .int .i64 k ∧ (s.toList.take k).all Pm.isLet = true) (fun i => s.size - (intOf i).toNat)
  case atStart => exact ⟨0, Nat.zero_le _, rfl, by simp⟩
  case round =>
    obtain ⟨k, hk, rfl, hall⟩ := hrel
    by_cases hlt : k < s.size
    · have ht := take_snoc s k hlt
      have hb : s[k].toNat < 256 := UInt8.toNat_lt _
      have HB : Hid (∀ c, s.toList.all c = ((s.toList.take (k+1)).all c && (s.toList.drop (k+1)).all c)) := by
        intro c; rw [← List.all_append, List.take_append_drop]
      have HA : Hid ((s.toList.take (k+1)).all Pm.isLet = Pm.isLet s[k]) := by
        unfold Hid; rw [ht, List.all_append, hall]; simp
      have HL : Hid (Pm.isLet s[k] = (!(decide ((s[k].toNat : Int) < 97) || decide (122 < (s[k].toNat : Int))))) := isLet_iff _
      clear ht hall
      by_cases h1 : (s[k].toNat : Int) < 97
      · go_wp2
        go_ret
        exact ⟨ret_bool (by rw [HB.out, HA.out, HL.out, decide_eq_true h1]; rfl), rfl⟩
      · by_cases h2 : 122 < (s[k].toNat : Int)
        · go_wp2
          go_ret
          exact ⟨ret_bool (by rw [HB.out, HA.out, HL.out, decide_eq_true h2, Bool.or_true]; rfl), rfl⟩
        · go_wp2
          go_round
          case rel => exact ⟨k + 1, by omega, by go_num, by rw [HA.out, HL.out, decide_eq_false h1, decide_eq_false h2]; rfl⟩
          case measure => simp [intOf]; omega
    · have HA : Hid (s.toList.all Pm.isLet = true) := by
        unfold Hid; rw [List.take_of_length_le (by rw [ByteArray.toList_eq]; show s.size ≤ k; omega)] at hall; exact hall
      clear hall
      go_wp2
      go_ret
      exact ⟨ret_bool HA.out.symm, rfl⟩

end Pa
end Go.Proofs.YtekcjhembcdgfaaDoor
