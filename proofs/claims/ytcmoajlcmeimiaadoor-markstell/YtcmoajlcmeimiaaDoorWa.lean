/- What the reference says of two dots, of two marks, of one. -/
import Derived.Test.YtcmoajlcmeimiaaDoorNa
import Derived.Test.YtcmoajlcmeimiaaDoorWp
import Derived.Deep.RegionWith
import Derived.Deep.QuietTactic
import Derived.BigQuiet
namespace Go.Proofs.YtcmoajlcmeimiaaDoor
namespace Wa
set_option linter.unusedVariables false
open Go.ChangeShapes Go.WideShapes Go.ChangeAt Go.RowKit Cm Ka Kb Na Wp
open La (bel bel_drew errV_zero errV_ne own_ge own_grow own_below)

theorem less_ref (a1 a2 b1 b2 : Int) (w : World) :
    Calls Tryd.prog 43 #[.agg #[.int .i64 a1, .int .i64 a2], .agg #[.int .i64 b1, .int .i64 b2]] w fun e w' => e = .returned (.bool (dlt (a1, a2) (b1, b2))) ∧ Below w.heap.size w w' := by
  have HB : Hid (∀ O1 O2, Below w.heap.size w ((w.alloc O1).alloc O2)) := fun O1 O2 => ((Below.refl _ w).alloc (Nat.le_refl _) _).alloc (by simp) _
  have HD : Hid (dlt (a1, a2) (b1, b2) = (decide (a1 < b1) || (decide (a1 = b1) && decide (a2 < b2)))) := rfl
  by_cases h1 : a1 < b1
  · rw [HD.out, decide_eq_true h1]
    clear HD
    go_enter Tryd.func43, Tryd.ntmps43
    go_wp2
    go_ret
    exact ⟨rfl, HB.out _ _⟩
  · by_cases h2 : a1 = b1
    · subst h2
      by_cases h3 : a2 < b2
      · rw [HD.out, decide_eq_false h1, decide_eq_true rfl, decide_eq_true h3]
        clear HD
        go_enter Tryd.func43, Tryd.ntmps43
        go_wp2
        go_ret
        exact ⟨by first | rfl | (refine ret_bool ?_; simp; omega), HB.out _ _⟩
      · rw [HD.out, decide_eq_false h1, decide_eq_true rfl, decide_eq_false h3]
        clear HD
        go_enter Tryd.func43, Tryd.ntmps43
        go_wp2
        go_ret
        exact ⟨by first | rfl | (refine ret_bool ?_; simp; omega), HB.out _ _⟩
    · rw [HD.out, decide_eq_false h1, decide_eq_false h2]
      have h2b : (a1 == b1) = false := by simpa using h2
      clear HD
      go_enter Tryd.func43, Tryd.ntmps43
      go_wp2
      go_ret
      exact ⟨rfl, HB.out _ _⟩

theorem before_ref (pa : ByteArray) (a1 a2 : Int) (pb : ByteArray) (b1 b2 : Int) (w : World) :
    Calls Tryd.prog 33 #[.agg #[.string pa, .int .i64 a1, .int .i64 a2], .agg #[.string pb, .int .i64 b1, .int .i64 b2]] w fun e w' => e = .returned (.bool (mlt (pa, (a1, a2)) (pb, (b1, b2)))) ∧ Below w.heap.size w w' := by
  have HB : Hid (∀ O1 O2, Below w.heap.size w ((w.alloc O1).alloc O2)) := fun O1 O2 => ((Below.refl _ w).alloc (Nat.le_refl _) _).alloc (by simp) _
  by_cases h : pa = pb
  · subst h
    have HM : Hid (mlt (pa, (a1, a2)) (pa, (b1, b2)) = dlt (a1, a2) (b1, b2)) := by unfold Hid mlt; simp [Bm.less_irrefl]
    rw [HM.out]
    obtain ⟨t, ht⟩ : ∃ t, t = dlt (a1, a2) (b1, b2) := ⟨_, rfl⟩
    have C := fun W => less_ref a1 a2 b1 b2 W
    rw [← ht] at C ⊢
    clear HM ht
    go_enter Tryd.func33, Tryd.ntmps33
    go_wp2_with fail
    refine (C _).mono ?_
    rintro e w2 ⟨rfl, hb2⟩
    have HB2 : Hid (Below w.heap.size w w2) := bel (HB.out _ _) hb2
    clear hb2 C
    go_wp2_with fail
    go_ret
    exact ⟨rfl, HB2.out⟩
  · have hne : ¬ pa.toList = pb.toList := fun e => h (Bm.bytes_inj e)
    have hnb : (pa.toList == pb.toList) = false := by simpa using hne
    have HM : Hid (mlt (pa, (a1, a2)) (pb, (b1, b2)) = Op.bytesLess pa.toList pb.toList) := by unfold Hid mlt; simp [h]
    rw [HM.out]
    clear HM
    go_enter Tryd.func33, Tryd.ntmps33
    go_wp2_with fail
    go_ret
    exact ⟨rfl, HB.out _ _⟩

theorem dot_ref (who m : Int) (w : World) :
    Calls Tryd.prog 37 #[.agg #[.int .i64 who, .int .i64 m]] w fun e w' => e = .returned (.int .i64 (dotE who m)) ∧ Below w.heap.size w w' := by
  go_enter Tryd.func37, Tryd.ntmps37
  go_wp2
  all_goals
    go_ret
    refine ⟨?_, (Below.refl _ w).alloc (Nat.le_refl _) _⟩
    unfold dotE
    first
      | (rw [if_pos (by omega)]; rfl)
      | (rw [if_neg (by omega)]; rfl)

theorem mark_ref (s : ByteArray) (a b : Int) (w : World) (hs : s.size ≤ maxLen) :
    Calls Tryd.prog 9 #[.agg #[.string s, .int .i64 a, .int .i64 b]] w fun e w' => e = .returned (.int .i64 (markE (s, (a, b)))) ∧ Below w.heap.size w w' := by
  have C := fun W => place_ref s W hs
  have HB : Hid (∀ O1, Below w.heap.size w (w.alloc O1)) := fun O1 => (Below.refl _ w).alloc (Nat.le_refl _) _
  by_cases h : Pm.chk s.toList = 0
  · rw [h] at C
    have HM : Hid (markE (s, (a, b)) = dotE a b) := by unfold Hid markE; rw [if_neg (by simpa using h)]
    rw [HM.out]
    obtain ⟨z, hz⟩ : ∃ z, z = dotE a b := ⟨_, rfl⟩
    have C2 := fun W => dot_ref a b W
    rw [← hz] at C2 ⊢
    clear HM hz h
    go_enter Tryd.func9, Tryd.ntmps9
    go_wp2_with fail
    refine (C _).mono ?_
    rintro e w2 ⟨rfl, hw⟩
    have hw2 := hw.symm; subst hw2; clear hw C
    go_wp2_with fail
    refine (C2 _).mono ?_
    rintro e w3 ⟨rfl, hb3⟩
    have HB3 : Hid (Below w.heap.size w w3) := bel (HB.out _) hb3
    clear hb3 C2
    go_wp2_with fail
    go_ret
    exact ⟨rfl, HB3.out⟩
  · have HM : Hid (markE (s, (a, b)) = Pm.chk s.toList) := by unfold Hid markE; rw [if_pos h]
    rw [HM.out]
    obtain ⟨z, hz⟩ : ∃ z, z = Pm.chk s.toList := ⟨_, rfl⟩
    have hzb : (z == 0) = false := by rw [hz]; simpa using h
    rw [← hz] at C ⊢
    clear HM hz h
    go_enter Tryd.func9, Tryd.ntmps9
    go_wp2_with fail
    refine (C _).mono ?_
    rintro e w2 ⟨rfl, hw⟩
    have hw2 := hw.symm; subst hw2; clear hw C
    go_wp2_with fail
    go_ret
    exact ⟨rfl, HB.out _⟩

end Wa
end Go.Proofs.YtcmoajlcmeimiaaDoor
