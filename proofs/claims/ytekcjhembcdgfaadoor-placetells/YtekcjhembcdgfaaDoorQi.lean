/- What the reference's Between answers. -/
import Derived.Test.YtekcjhembcdgfaaDoorQh
namespace Go.Proofs.YtekcjhembcdgfaaDoor
namespace Qi
set_option linter.unusedVariables false
open Go.RowKit Pa Pb Pc Pd Pe Qa Qb Qc Qd Qe Qf Qg Qh

set_option maxHeartbeats 2000000 in
set_option maxRecDepth 100000 in
theorem between_ref (a b : ByteArray) (who : Int) (w : World) (ha : a.size ≤ maxLen) (hb : b.size ≤ maxLen) (h1 : 1 ≤ who) (h8 : who ≤ 8) (tb : ByteArray) (htb : tb = ⟨(Pm.betText a.toList b.toList who).toArray⟩) (eb : Int) (heb : Pm.betErr a.toList b.toList who = eb) :
    Calls Tryd.prog 14 #[.string a, .string b, .int .i64 who] w fun e w' => e = .returned (.tuple #[.string tb, .int .i64 eb]) ∧ Below w.heap.size w w' := by
  have hwho : Pm.isWho who = true := by simp [Pm.isWho, h1, h8]
  by_cases hs : Pm.sides a.toList b.toList = 0
  · obtain ⟨q1, q2⟩ := Pm.quarter_bet a.toList b.toList who hwho hs
    have HS : Hid (Pm.sides a.toList b.toList = 0) := hs
    by_cases hq : Pm.quarter a.toList b.toList = []
    · rw [if_pos hq] at q1 q2
      have HE : Hid (eb = 8) := by unfold Hid; rw [← heb, q1]
      have HT : Hid (tb = ⟨#[]⟩) := by unfold Hid; rw [htb, q2]
      have HQ : Hid (Pm.quarter a.toList b.toList = []) := hq
      clear hs hq q1 q2 heb htb
      go_enter Tryd.func14, Tryd.ntmps14
      go_wp2_with fail
      refine (two_ref a b _ ha hb).mono ?_
      rintro e w' ⟨rfl, hw⟩
      have hw2 := hw.symm; subst hw2; clear hw
      rw [HS.out]
      go_wp2_with fail
      refine (quarter_ref a b _ hb).mono ?_
      rintro e w1 ⟨r, rfl, hr, hb1⟩
      have hre : r.toList.isEmpty = true := by rw [hr, HQ.out]; rfl
      clear hr
      go_wp2_with fail
      go_ret2
      exact ⟨by rw [HE.out, HT.out]; rfl, hb1⟩
    · rw [if_neg hq] at q1 q2
      have HE : Hid (eb = 0) := by unfold Hid; rw [← heb, q1]
      have HQ : Hid (Pm.quarter a.toList b.toList ≠ []) := hq
      have HQ11 : Hid ((Pm.quarter a.toList b.toList).length ≤ 11) := Pm.quarter_ne.2
      have HT : Hid (tb = ⟨(Pm.quarter a.toList b.toList ++ [UInt8.ofNat (97 + who.toNat)]).toArray⟩) := by unfold Hid; rw [htb, q2]
      have HC : Hid (97 + who = ((UInt8.ofNat (97 + who.toNat)).toNat : Int)) := by
        have : (UInt8.ofNat (97 + who.toNat)).toNat = 97 + who.toNat := by simp; omega
        unfold Hid; rw [this]; omega
      clear hs hq q1 q2 heb htb
      go_enter Tryd.func14, Tryd.ntmps14
      go_wp2_with fail
      refine (two_ref a b _ ha hb).mono ?_
      rintro e w' ⟨rfl, hw⟩
      have hw2 := hw.symm; subst hw2; clear hw
      rw [HS.out]
      go_wp2_with fail
      refine (quarter_ref a b _ hb).mono ?_
      rintro e w1 ⟨r, rfl, hr, hb1⟩
      have hre : r.toList.isEmpty = false := by
        rw [hr]; cases hc : Pm.quarter a.toList b.toList with
        | nil => exact absurd hc HQ.out
        | cons _ _ => rfl
      have hr11 : r.size ≤ 11 := by rw [← len_eq, hr]; exact HQ11.out
      have HT2 : Hid (tb = ⟨(r.toList ++ [UInt8.ofNat (97 + who.toNat)]).toArray⟩) := by unfold Hid; rw [hr]; exact HT.out
      have hcv := fun w => run_bytes_of_string (P := Tryd.prog) w 9 56 5 r Tryd.underlying9 Tryd.underlying56 Tryd.underlying5
      clear hr
      go_wp2_with (at_builtin; refine wpList_push_laid w1 rfl (.tmp 24) (.tmp 28) rfl w1.heap.size r _ (UInt8.ofNat (97 + who.toNat)) _ rfl rfl (by omega) (Nat.le_refl _) HC.out tb HT2.out ?_; intro g cap w2 hb2 hrd; have hcv2 := hrd w2 (Below.refl _ _); clear hcv hrd)
      go_ret2
      exact ⟨by rw [HE.out]; rfl, hb1.trans (hb2.mono hb1.size)⟩
  · have q1 : Pm.betErr a.toList b.toList who = Pm.sides a.toList b.toList := by unfold Pm.betErr Pm.roomErr; simp [hwho, hs]
    have q2 : Pm.betText a.toList b.toList who = [] := by unfold Pm.betText; simp [hs]
    obtain ⟨cs, hcs⟩ : ∃ cs, Pm.sides a.toList b.toList = cs := ⟨_, rfl⟩
    have HCS : Hid (Pm.sides a.toList b.toList = cs) := hcs
    have ncs : (cs == 0) = false := by rw [beq_eq_false_iff_ne, ← hcs]; exact hs
    have HE : Hid (eb = cs) := by unfold Hid; rw [← heb, q1, hcs]
    have HT : Hid (tb = ⟨#[]⟩) := by unfold Hid; rw [htb, q2]
    clear hs q1 q2 heb htb hcs
    go_enter Tryd.func14, Tryd.ntmps14
    go_wp2_with fail
    refine (two_ref a b _ ha hb).mono ?_
    rintro e w' ⟨rfl, hw⟩
    have hw2 := hw.symm; subst hw2; clear hw
    rw [HCS.out]
    go_wp2_with fail
    go_ret2
    exact ⟨by rw [HE.out, HT.out]; rfl, Below.refl _ _⟩

end Qi
end Go.Proofs.YtekcjhembcdgfaaDoor
