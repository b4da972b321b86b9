/- What the reference says of a place (a seat without books; drawn from Wp). -/
import Derived.Test.YtekmdkfbdcamdaaDoorKb
namespace Go.Proofs.YtekmdkfbdcamdaaDoor
namespace Fv
set_option linter.unusedVariables false
open Go.ChangeShapes Go.WideShapes Go.ChangeAt Go.RowKit Ka Kb

/- behind the letters: what is left of the test -/
theorem chk_let {s : ByteArray} (h12 : ¬ 12 < s.size) (hall : s.toList.all Pm.isLet = true) (h2 : 2 ≤ s.size) :
    Pm.chk s.toList = if ((s[s.size - 1]'(by omega)).toNat : Int) < 98 then 2 else if 105 < ((s[s.size - 1]'(by omega)).toNat : Int) then 2 else if (((s[s.size - 2]'(by omega)).toNat : Int) == 97) = true then 2 else 0 := by
  have hl := len_eq s
  have h1 := last_eq s (by omega)
  have hc := last2_eq s h2
  unfold Pm.chk
  rw [hl, if_neg h12, if_neg (by omega), hall, hc]
  have hw : Pm.isWho (Pm.whoOf s.toList) = (decide (98 ≤ ((s[s.size - 1]'(by omega)).toNat : Int)) && decide (((s[s.size - 1]'(by omega)).toNat : Int) ≤ 105)) := by
    unfold Pm.isWho Pm.whoOf
    rw [h1]
    rw [Bool.eq_iff_iff]
    simp
    omega
  rw [hw]
  generalize ((s[s.size - 1]'(by omega)).toNat : Int) = x
  generalize (((s[s.size - 2]'(by omega)).toNat : Int) == 97) = y
  by_cases hx1 : x < 98
  · rw [if_pos hx1, decide_eq_false (by omega)]; cases y <;> simp
  · rw [if_neg hx1, decide_eq_true (by omega)]
    by_cases hx2 : 105 < x
    · rw [if_pos hx2, decide_eq_false (by omega)]; cases y <;> simp
    · rw [if_neg hx2, decide_eq_true (by omega)]; cases y <;> simp

set_option maxHeartbeats 1000000 in
theorem place_ref (s : ByteArray) (w : World) (hs : s.size ≤ maxLen) :
    Calls Tryd.prog 12 #[.string s] w fun e w' => e = .returned (.int .i64 (Pm.chk s.toList)) ∧ w' = w := by
  have hl := len_eq s
  have hm := hs
  unfold maxLen at hm
  by_cases h12 : 12 < s.size
  · have H : Hid (Pm.chk s.toList = 4) := by unfold Hid Pm.chk; rw [hl, if_pos h12]
    clear hl
    go_enter Tryd.func12, Tryd.ntmps12
    go_wp2
    go_ret
    exact ⟨ret_int H.out.symm, rfl⟩
  · have HB : Hid (s.toList.all Pm.isLet = false → Pm.chk s.toList = 2) := by
      intro h3; unfold Pm.chk; rw [hl, if_neg h12, h3]; simp
    have HL : Hid (s.size < 2 → Pm.chk s.toList = 2) := by
      intro h3; unfold Pm.chk; rw [hl, if_neg h12, if_pos h3]
    clear hl
    go_enter Tryd.func12, Tryd.ntmps12
    go_wp2
    go_loop [4] (fun i => ∃ k : Nat, k ≤ s.size ∧ i = .int .i64 k ∧ Hid ((s.toList.take k).all Pm.isLet = true)) (fun i => s.size - (intOf i).toNat)
    case atStart => exact ⟨0, Nat.zero_le _, rfl, by unfold Hid; simp⟩
    case round =>
      obtain ⟨k, hk, rfl, HA⟩ := hrel
      by_cases hlt : k < s.size
      · have hb : s[k].toNat < 256 := UInt8.toNat_lt _
        have HA1 : Hid ((s.toList.take (k+1)).all Pm.isLet = Pm.isLet s[k]) := by
          unfold Hid; rw [take_snoc s k hlt, List.all_append, HA.out]; simp
        have HA2 : Hid (∀ c, s.toList.all c = ((s.toList.take (k+1)).all c && (s.toList.drop (k+1)).all c)) := by
          intro c; rw [← List.all_append, List.take_append_drop]
        have HLt : Hid (Pm.isLet s[k] = (!(decide ((s[k].toNat : Int) < 97) || decide (122 < (s[k].toNat : Int))))) := isLet_iff _
        by_cases h1 : (s[k].toNat : Int) < 97
        · have H : Hid (Pm.chk s.toList = 2) := HB.out (by rw [HA2.out, HA1.out, HLt.out, decide_eq_true h1]; rfl)
          go_wp2
          go_ret
          exact ⟨ret_int H.out.symm, rfl⟩
        · by_cases h2 : 122 < (s[k].toNat : Int)
          · have H : Hid (Pm.chk s.toList = 2) := HB.out (by rw [HA2.out, HA1.out, HLt.out, decide_eq_true h2, Bool.or_true]; rfl)
            go_wp2
            go_ret
            exact ⟨ret_int H.out.symm, rfl⟩
          · go_wp2
            go_round
            case rel => exact ⟨k + 1, by omega, by go_num, by unfold Hid; rw [HA1.out, HLt.out, decide_eq_false h1, decide_eq_false h2]; rfl⟩
            case measure => simp [intOf]; omega
      · have HAll : Hid (s.toList.all Pm.isLet = true) := by
          have := HA.out
          unfold Hid; rwa [List.take_of_length_le (by rw [len_eq]; omega)] at this
        by_cases h2 : s.size < 2
        · have H : Hid (Pm.chk s.toList = 2) := HL.out h2
          go_wp2
          go_ret
          exact ⟨ret_int H.out.symm, rfl⟩
        · have hq1 : s.size - 1 < s.size := by omega
          have hq2 : s.size - 2 < s.size := by omega
          have HC := chk_let h12 HAll.out (by omega : 2 ≤ s.size)
          have HC' : Hid (Pm.chk s.toList = if ((s[s.size - 1]'hq1).toNat : Int) < 98 then 2 else if 105 < ((s[s.size - 1]'hq1).toNat : Int) then 2 else if (((s[s.size - 2]'hq2).toNat : Int) == 97) = true then 2 else 0) := HC
          clear HC
          by_cases h3 : ((s[s.size - 1]'hq1).toNat : Int) < 98
          · have H : Hid (Pm.chk s.toList = 2) := by unfold Hid; rw [HC'.out, if_pos h3]
            go_wp2
            go_ret
            exact ⟨ret_int H.out.symm, rfl⟩
          · by_cases h4 : 105 < ((s[s.size - 1]'hq1).toNat : Int)
            · have H : Hid (Pm.chk s.toList = 2) := by unfold Hid; rw [HC'.out, if_neg h3, if_pos h4]
              go_wp2
              go_ret
              exact ⟨ret_int H.out.symm, rfl⟩
            · cases h5 : (((s[s.size - 2]'hq2).toNat : Int) == 97)
              · have H : Hid (Pm.chk s.toList = 0) := by unfold Hid; rw [HC'.out, if_neg h3, if_neg h4, h5]; rfl
                go_wp2
                go_ret
                exact ⟨ret_int H.out.symm, rfl⟩
              · have H : Hid (Pm.chk s.toList = 2) := by unfold Hid; rw [HC'.out, if_neg h3, if_neg h4, h5]; rfl
                go_wp2
                go_ret
                exact ⟨ret_int H.out.symm, rfl⟩


end Fv
end Go.Proofs.YtekmdkfbdcamdaaDoor
