/- The walk of the law PlaceTells, case by case. -/
import Derived.Test.YtekcjhembcdgfaaDoorQi
import Derived.Test.YtekcjhembcdgfaaDoorPf
import Derived.Test.YtekcjhembcdgfaaDoorPl
namespace Go.Proofs.YtekcjhembcdgfaaDoor
namespace Qj
set_option linter.unusedVariables false
open Go.ChangeShapes Go.WideShapes Go.ChangeAt Go.RowKit Pa Pb Pc Pd Pe Pf Pt Pl Qf Qg Qh Qi

theorem check_val (s : ByteArray) (w : World) (hs : s.size ≤ maxLen) (n : Int) (h : Pm.chk s.toList = n) :
    Calls Tryd.prog 8 #[.string s] w fun e w' => e = .returned (errV n) ∧ w' = w := by
  subst h; exact check_any s w hs
theorem place_val (s : ByteArray) (w : World) (hs : s.size ≤ maxLen) (n : Int) (h : Pm.chk s.toList = n) :
    Calls Tryd.prog 6 #[.string s] w fun e w' => e = .returned (.int .i64 n) ∧ w' = w := by
  subst h; exact place_ref s w hs
theorem who_val (s : ByteArray) (w : World) (hs : s.size ≤ maxLen) (n k : Int) (h : Pm.chk s.toList = n) (hk : Pm.whoR s.toList = k) :
    Calls Tryd.prog 10 #[.string s] w fun e w' => e = .returned (.tuple #[.int .i64 k, errV n]) ∧ w' = w := by
  subst h; subst hk; exact who_any s w hs
theorem whoref_val (s : ByteArray) (w : World) (h : 0 < s.size) (hs : s.size ≤ maxLen) (k : Int) (hk : Pm.whoOf s.toList = k) :
    Calls Tryd.prog 9 #[.string s] w fun e w' => e = .returned (.int .i64 k) ∧ w' = w := by
  subst hk; exact who_ref s w h hs
theorem two_val (a b : ByteArray) (w : World) (ha : a.size ≤ maxLen) (hb : b.size ≤ maxLen) (n : Int) (h : Pm.sides a.toList b.toList = n) :
    Calls Tryd.prog 11 #[.string a, .string b] w fun e w' => e = .returned (.int .i64 n) ∧ w' = w := by
  subst h; exact two_ref a b w ha hb
theorem room_val (a b : ByteArray) (w : World) (ha : a.size ≤ maxLen) (hb : b.size ≤ maxLen) (l n : Int) (hl : Pm.roomLen a.toList b.toList = l) (h : Pm.roomErr a.toList b.toList = n) :
    Calls Tryd.prog 13 #[.string a, .string b] w fun e w' => e = .returned (.tuple #[.int .i64 l, errV n]) ∧ Below w.heap.size w w' := by
  subst h; subst hl; exact room_any a b w ha hb
theorem bet_val (a b : ByteArray) (n : Int) (w : World) (ha : a.size ≤ maxLen) (hb : b.size ≤ maxLen) (tb : ByteArray) (htb : tb = ⟨(Pm.betText a.toList b.toList n).toArray⟩) (eb : Int) (heb : Pm.betErr a.toList b.toList n = eb) :
    Calls Tryd.prog 15 #[.string a, .string b, .int .i64 n] w fun e w' => e = .returned (.tuple #[.string tb, errV eb]) ∧ Below w.heap.size w w' := by
  subst heb; subst htb; exact between_any a b n w ha hb
theorem same_yes (n : Int) (w : World) (hg : ET w) : Calls Tryd.prog 7 #[errV n, .int .i64 n] w fun e w' => e = .returned (.bool true) ∧ Below w.heap.size w w' := by
  refine (same_any n n w hg).mono ?_
  rintro e w' ⟨rfl, hb⟩
  exact ⟨by simp, hb⟩

set_option maxHeartbeats 4000000 in
set_option maxRecDepth 100000 in
theorem walk_01 (a b : ByteArray) (who ca cs : Int) (w : World) (ha : a.size ≤ maxLen) (hb : b.size ≤ maxLen) (hg : ET w) (hca : Pm.chk a.toList = ca) (hca0 : ca = 0) (hcs : Pm.sides a.toList b.toList = cs) (hcs0 : cs ≠ 0) :
    Calls Tryd.prog 3 #[.string a, .string b, .int .i64 who] w fun e w' => e = .returned (.bool true) ∧ Below w.heap.size w w' := by
  have HG : Hid (ET w) := hg
  have Hca : Hid (Pm.chk a.toList = ca) := hca
  have Hcs : Hid (Pm.sides a.toList b.toList = cs) := hcs
  obtain ⟨wa, hwa⟩ : ∃ wa, Pm.whoR a.toList = wa := ⟨_, rfl⟩
  have Hwa : Hid (Pm.whoR a.toList = wa) := hwa
  have haz : 0 < a.size := by
    rcases Nat.eq_zero_or_pos a.size with h0 | h0
    · have hl := len_eq a
      rw [h0] at hl
      unfold Pm.chk at hca
      rw [hl] at hca
      simp at hca; omega
    · exact h0
  have Hwo : Hid (Pm.whoOf a.toList = wa) := by unfold Hid; rw [← hwa, Pm.whoR, hca, if_pos hca0]
  subst hca0
  have Hrl : Hid (Pm.roomLen a.toList b.toList = 0) := by unfold Hid Pm.roomLen; rw [hcs, if_pos hcs0]
  have Hre : Hid (Pm.roomErr a.toList b.toList = cs) := by unfold Hid Pm.roomErr; rw [hcs, if_pos hcs0]
  have ncs : (cs == 0) = false := by rw [beq_eq_false_iff_ne]; exact hcs0
  obtain ⟨tb, htb⟩ : ∃ tb : ByteArray, tb = ⟨(Pm.betText a.toList b.toList who).toArray⟩ := ⟨_, rfl⟩
  have Htb : Hid (tb = ⟨(Pm.betText a.toList b.toList who).toArray⟩) := htb
  obtain ⟨eb, heb⟩ : ∃ eb, Pm.betErr a.toList b.toList who = eb := ⟨_, rfl⟩
  have Heb : Hid (Pm.betErr a.toList b.toList who = eb) := heb
  have Hno : Hid (Pm.isWho who = false → eb = 1 ∧ tb = ⟨#[]⟩) := by
    intro hw
    exact ⟨by rw [← heb]; simp [Pm.betErr, hw], by rw [htb]; simp [Pm.betText, hw]⟩
  clear hca hcs hwa htb heb hg
  rcases (show who < 1 ∨ (1 ≤ who ∧ 8 < who) ∨ (1 ≤ who ∧ who ≤ 8) by omega) with hw1 | ⟨hw1, hw8⟩ | ⟨hw1, hw8⟩
  · obtain ⟨e1, e2⟩ := Hno.out (by simp [Pm.isWho]; omega)
    subst e1; subst e2
    clear Hno
    go_enter Tryd.func3, Tryd.ntmps3
    go_wp2_with fail
    refine (place_val a _ ha _ Hca.out).mono ?_
    rintro e w' ⟨rfl, hw⟩
    have hw2 := hw.symm; subst hw2; clear hw
    go_wp2_with fail
    refine (check_val a _ ha _ Hca.out).mono ?_
    rintro e w' ⟨rfl, hw⟩
    have hw2 := hw.symm; subst hw2; clear hw
    go_wp2_with fail
    refine (same_yes _ _ HG.out).mono ?_
    rintro e w1 ⟨rfl, hb1⟩
    have HG1 : Hid (ET w1) := ET.below HG.out hb1
    go_wp2_with fail
    refine (whoref_val a _ haz ha _ Hwo.out).mono ?_
    rintro e w' ⟨rfl, hw⟩
    have hw2 := hw.symm; subst hw2; clear hw
    go_wp2_with fail
    refine (who_val a _ ha _ _ Hca.out Hwa.out).mono ?_
    rintro e w' ⟨rfl, hw⟩
    have hw2 := hw.symm; subst hw2; clear hw
    go_wp2_with fail
    refine (same_yes _ _ HG1.out).mono ?_
    rintro e w2 ⟨rfl, hb2⟩
    have hb3 : Below w.heap.size w w2 := bel hb1 hb2
    have HG2 : Hid (ET w2) := ET.below HG.out hb3
    clear hb1 hb2
    go_wp2_with fail
    refine (two_val a b _ ha hb _ Hcs.out).mono ?_
    rintro e w' ⟨rfl, hw⟩
    have hw2 := hw.symm; subst hw2; clear hw
    have hb5 := hb3
    go_wp2_with fail
    refine (room_val a b _ ha hb _ _ Hrl.out Hre.out).mono ?_
    rintro e w4 ⟨rfl, hb6⟩
    have hb7 : Below w.heap.size w w4 := bel hb5 hb6
    have HG4 : Hid (ET w4) := ET.below HG.out hb7
    clear hb6
    go_wp2_with fail
    refine (same_yes _ _ HG4.out).mono ?_
    rintro e w5 ⟨rfl, hb8⟩
    have hb9 : Below w.heap.size w w5 := bel hb7 hb8
    clear hb8
    have hbb := hb9
    go_wp2_with fail
    refine (bet_val a b who _ ha hb _ Htb.out _ Heb.out).mono ?_
    rintro e w7 ⟨rfl, hbc⟩
    have hbd : Below w.heap.size w w7 := bel hbb hbc
    have HG7 : Hid (ET w7) := ET.below HG.out hbd
    clear hbc
    go_wp2_with fail
    refine (same_yes _ _ HG7.out).mono ?_
    rintro e w8 ⟨rfl, hbe⟩
    have hbf : Below w.heap.size w w8 := bel hbd hbe
    clear hbe
    go_wp2_with fail
    go_ret
    exact ⟨ret_bool (by simp), hbf⟩
  · obtain ⟨e1, e2⟩ := Hno.out (by simp [Pm.isWho]; omega)
    subst e1; subst e2
    clear Hno
    go_enter Tryd.func3, Tryd.ntmps3
    go_wp2_with fail
    refine (place_val a _ ha _ Hca.out).mono ?_
    rintro e w' ⟨rfl, hw⟩
    have hw2 := hw.symm; subst hw2; clear hw
    go_wp2_with fail
    refine (check_val a _ ha _ Hca.out).mono ?_
    rintro e w' ⟨rfl, hw⟩
    have hw2 := hw.symm; subst hw2; clear hw
    go_wp2_with fail
    refine (same_yes _ _ HG.out).mono ?_
    rintro e w1 ⟨rfl, hb1⟩
    have HG1 : Hid (ET w1) := ET.below HG.out hb1
    go_wp2_with fail
    refine (whoref_val a _ haz ha _ Hwo.out).mono ?_
    rintro e w' ⟨rfl, hw⟩
    have hw2 := hw.symm; subst hw2; clear hw
    go_wp2_with fail
    refine (who_val a _ ha _ _ Hca.out Hwa.out).mono ?_
    rintro e w' ⟨rfl, hw⟩
    have hw2 := hw.symm; subst hw2; clear hw
    go_wp2_with fail
    refine (same_yes _ _ HG1.out).mono ?_
    rintro e w2 ⟨rfl, hb2⟩
    have hb3 : Below w.heap.size w w2 := bel hb1 hb2
    have HG2 : Hid (ET w2) := ET.below HG.out hb3
    clear hb1 hb2
    go_wp2_with fail
    refine (two_val a b _ ha hb _ Hcs.out).mono ?_
    rintro e w' ⟨rfl, hw⟩
    have hw2 := hw.symm; subst hw2; clear hw
    have hb5 := hb3
    go_wp2_with fail
    refine (room_val a b _ ha hb _ _ Hrl.out Hre.out).mono ?_
    rintro e w4 ⟨rfl, hb6⟩
    have hb7 : Below w.heap.size w w4 := bel hb5 hb6
    have HG4 : Hid (ET w4) := ET.below HG.out hb7
    clear hb6
    go_wp2_with fail
    refine (same_yes _ _ HG4.out).mono ?_
    rintro e w5 ⟨rfl, hb8⟩
    have hb9 : Below w.heap.size w w5 := bel hb7 hb8
    clear hb8
    have hbb := hb9
    go_wp2_with fail
    refine (bet_val a b who _ ha hb _ Htb.out _ Heb.out).mono ?_
    rintro e w7 ⟨rfl, hbc⟩
    have hbd : Below w.heap.size w w7 := bel hbb hbc
    have HG7 : Hid (ET w7) := ET.below HG.out hbd
    clear hbc
    go_wp2_with fail
    refine (same_yes _ _ HG7.out).mono ?_
    rintro e w8 ⟨rfl, hbe⟩
    have hbf : Below w.heap.size w w8 := bel hbd hbe
    clear hbe
    go_wp2_with fail
    go_ret
    exact ⟨ret_bool (by simp), hbf⟩
  · clear Hno
    go_enter Tryd.func3, Tryd.ntmps3
    go_wp2_with fail
    refine (place_val a _ ha _ Hca.out).mono ?_
    rintro e w' ⟨rfl, hw⟩
    have hw2 := hw.symm; subst hw2; clear hw
    go_wp2_with fail
    refine (check_val a _ ha _ Hca.out).mono ?_
    rintro e w' ⟨rfl, hw⟩
    have hw2 := hw.symm; subst hw2; clear hw
    go_wp2_with fail
    refine (same_yes _ _ HG.out).mono ?_
    rintro e w1 ⟨rfl, hb1⟩
    have HG1 : Hid (ET w1) := ET.below HG.out hb1
    go_wp2_with fail
    refine (whoref_val a _ haz ha _ Hwo.out).mono ?_
    rintro e w' ⟨rfl, hw⟩
    have hw2 := hw.symm; subst hw2; clear hw
    go_wp2_with fail
    refine (who_val a _ ha _ _ Hca.out Hwa.out).mono ?_
    rintro e w' ⟨rfl, hw⟩
    have hw2 := hw.symm; subst hw2; clear hw
    go_wp2_with fail
    refine (same_yes _ _ HG1.out).mono ?_
    rintro e w2 ⟨rfl, hb2⟩
    have hb3 : Below w.heap.size w w2 := bel hb1 hb2
    have HG2 : Hid (ET w2) := ET.below HG.out hb3
    clear hb1 hb2
    go_wp2_with fail
    refine (two_val a b _ ha hb _ Hcs.out).mono ?_
    rintro e w' ⟨rfl, hw⟩
    have hw2 := hw.symm; subst hw2; clear hw
    have hb5 := hb3
    go_wp2_with fail
    refine (room_val a b _ ha hb _ _ Hrl.out Hre.out).mono ?_
    rintro e w4 ⟨rfl, hb6⟩
    have hb7 : Below w.heap.size w w4 := bel hb5 hb6
    have HG4 : Hid (ET w4) := ET.below HG.out hb7
    clear hb6
    go_wp2_with fail
    refine (same_yes _ _ HG4.out).mono ?_
    rintro e w5 ⟨rfl, hb8⟩
    have hb9 : Below w.heap.size w w5 := bel hb7 hb8
    clear hb8
    go_wp2_with fail
    refine (between_ref a b who _ ha hb hw1 hw8 tb Htb.out eb Heb.out).mono ?_
    rintro e w6 ⟨rfl, hba⟩
    have hbb : Below w.heap.size w w6 := bel hb9 hba
    clear hba
    go_wp2_with fail
    refine (bet_val a b who _ ha hb _ Htb.out _ Heb.out).mono ?_
    rintro e w7 ⟨rfl, hbc⟩
    have hbd : Below w.heap.size w w7 := bel hbb hbc
    have HG7 : Hid (ET w7) := ET.below HG.out hbd
    clear hbc
    go_wp2_with fail
    refine (same_yes _ _ HG7.out).mono ?_
    rintro e w8 ⟨rfl, hbe⟩
    have hbf : Below w.heap.size w w8 := bel hbd hbe
    clear hbe
    go_wp2_with fail
    go_ret
    exact ⟨ret_bool (by simp), hbf⟩

set_option maxHeartbeats 4000000 in
set_option maxRecDepth 100000 in
theorem walk_02 (a b : ByteArray) (who ca cs : Int) (w : World) (ha : a.size ≤ maxLen) (hb : b.size ≤ maxLen) (hg : ET w) (hca : Pm.chk a.toList = ca) (hca0 : ca = 0) (hcs : Pm.sides a.toList b.toList = cs) (hcs0 : cs = 0) (hq : Pm.quarter a.toList b.toList = []) :
    Calls Tryd.prog 3 #[.string a, .string b, .int .i64 who] w fun e w' => e = .returned (.bool true) ∧ Below w.heap.size w w' := by
  have HG : Hid (ET w) := hg
  have Hca : Hid (Pm.chk a.toList = ca) := hca
  have Hcs : Hid (Pm.sides a.toList b.toList = cs) := hcs
  obtain ⟨wa, hwa⟩ : ∃ wa, Pm.whoR a.toList = wa := ⟨_, rfl⟩
  have Hwa : Hid (Pm.whoR a.toList = wa) := hwa
  have haz : 0 < a.size := by
    rcases Nat.eq_zero_or_pos a.size with h0 | h0
    · have hl := len_eq a
      rw [h0] at hl
      unfold Pm.chk at hca
      rw [hl] at hca
      simp at hca; omega
    · exact h0
  have Hwo : Hid (Pm.whoOf a.toList = wa) := by unfold Hid; rw [← hwa, Pm.whoR, hca, if_pos hca0]
  subst hca0
  have hqr := Pm.quarter_room a.toList b.toList (by rw [hcs, hcs0])
  rw [if_pos hq, if_pos hq] at hqr
  have Hre : Hid (Pm.roomErr a.toList b.toList = 8) := hqr.1
  have Hrl : Hid (Pm.roomLen a.toList b.toList = 0) := hqr.2
  have Hq : Hid (Pm.quarter a.toList b.toList = []) := hq
  clear hqr hq
  subst hcs0
  obtain ⟨tb, htb⟩ : ∃ tb : ByteArray, tb = ⟨(Pm.betText a.toList b.toList who).toArray⟩ := ⟨_, rfl⟩
  have Htb : Hid (tb = ⟨(Pm.betText a.toList b.toList who).toArray⟩) := htb
  obtain ⟨eb, heb⟩ : ∃ eb, Pm.betErr a.toList b.toList who = eb := ⟨_, rfl⟩
  have Heb : Hid (Pm.betErr a.toList b.toList who = eb) := heb
  have Hno : Hid (Pm.isWho who = false → eb = 1 ∧ tb = ⟨#[]⟩) := by
    intro hw
    exact ⟨by rw [← heb]; simp [Pm.betErr, hw], by rw [htb]; simp [Pm.betText, hw]⟩
  clear hca hcs hwa htb heb hg
  rcases (show who < 1 ∨ (1 ≤ who ∧ 8 < who) ∨ (1 ≤ who ∧ who ≤ 8) by omega) with hw1 | ⟨hw1, hw8⟩ | ⟨hw1, hw8⟩
  · obtain ⟨e1, e2⟩ := Hno.out (by simp [Pm.isWho]; omega)
    subst e1; subst e2
    clear Hno
    go_enter Tryd.func3, Tryd.ntmps3
    go_wp2_with fail
    refine (place_val a _ ha _ Hca.out).mono ?_
    rintro e w' ⟨rfl, hw⟩
    have hw2 := hw.symm; subst hw2; clear hw
    go_wp2_with fail
    refine (check_val a _ ha _ Hca.out).mono ?_
    rintro e w' ⟨rfl, hw⟩
    have hw2 := hw.symm; subst hw2; clear hw
    go_wp2_with fail
    refine (same_yes _ _ HG.out).mono ?_
    rintro e w1 ⟨rfl, hb1⟩
    have HG1 : Hid (ET w1) := ET.below HG.out hb1
    go_wp2_with fail
    refine (whoref_val a _ haz ha _ Hwo.out).mono ?_
    rintro e w' ⟨rfl, hw⟩
    have hw2 := hw.symm; subst hw2; clear hw
    go_wp2_with fail
    refine (who_val a _ ha _ _ Hca.out Hwa.out).mono ?_
    rintro e w' ⟨rfl, hw⟩
    have hw2 := hw.symm; subst hw2; clear hw
    go_wp2_with fail
    refine (same_yes _ _ HG1.out).mono ?_
    rintro e w2 ⟨rfl, hb2⟩
    have hb3 : Below w.heap.size w w2 := bel hb1 hb2
    have HG2 : Hid (ET w2) := ET.below HG.out hb3
    clear hb1 hb2
    go_wp2_with fail
    refine (two_val a b _ ha hb _ Hcs.out).mono ?_
    rintro e w' ⟨rfl, hw⟩
    have hw2 := hw.symm; subst hw2; clear hw
    go_wp2_with fail
    refine (quarter_ref a b _ hb).mono ?_
    rintro e w3 ⟨r, rfl, hr, hb4⟩
    have hb5 : Below w.heap.size w w3 := bel hb3 hb4
    have hre : r.toList.isEmpty = true := by rw [hr, Hq.out]; rfl
    have hrs : r.size ≤ 11 := by rw [← len_eq, hr, Hq.out]; decide
    clear hb4 hr
    go_wp2_with fail
    refine (room_val a b _ ha hb _ _ Hrl.out Hre.out).mono ?_
    rintro e w4 ⟨rfl, hb6⟩
    have hb7 : Below w.heap.size w w4 := bel hb5 hb6
    have HG4 : Hid (ET w4) := ET.below HG.out hb7
    clear hb6
    go_wp2_with fail
    refine (same_yes _ _ HG4.out).mono ?_
    rintro e w5 ⟨rfl, hb8⟩
    have hb9 : Below w.heap.size w w5 := bel hb7 hb8
    clear hb8
    have hbb := hb9
    go_wp2_with fail
    refine (bet_val a b who _ ha hb _ Htb.out _ Heb.out).mono ?_
    rintro e w7 ⟨rfl, hbc⟩
    have hbd : Below w.heap.size w w7 := bel hbb hbc
    have HG7 : Hid (ET w7) := ET.below HG.out hbd
    clear hbc
    go_wp2_with fail
    refine (same_yes _ _ HG7.out).mono ?_
    rintro e w8 ⟨rfl, hbe⟩
    have hbf : Below w.heap.size w w8 := bel hbd hbe
    clear hbe
    go_wp2_with fail
    go_ret
    exact ⟨ret_bool (by simp), hbf⟩
  · obtain ⟨e1, e2⟩ := Hno.out (by simp [Pm.isWho]; omega)
    subst e1; subst e2
    clear Hno
    go_enter Tryd.func3, Tryd.ntmps3
    go_wp2_with fail
    refine (place_val a _ ha _ Hca.out).mono ?_
    rintro e w' ⟨rfl, hw⟩
    have hw2 := hw.symm; subst hw2; clear hw
    go_wp2_with fail
    refine (check_val a _ ha _ Hca.out).mono ?_
    rintro e w' ⟨rfl, hw⟩
    have hw2 := hw.symm; subst hw2; clear hw
    go_wp2_with fail
    refine (same_yes _ _ HG.out).mono ?_
    rintro e w1 ⟨rfl, hb1⟩
    have HG1 : Hid (ET w1) := ET.below HG.out hb1
    go_wp2_with fail
    refine (whoref_val a _ haz ha _ Hwo.out).mono ?_
    rintro e w' ⟨rfl, hw⟩
    have hw2 := hw.symm; subst hw2; clear hw
    go_wp2_with fail
    refine (who_val a _ ha _ _ Hca.out Hwa.out).mono ?_
    rintro e w' ⟨rfl, hw⟩
    have hw2 := hw.symm; subst hw2; clear hw
    go_wp2_with fail
    refine (same_yes _ _ HG1.out).mono ?_
    rintro e w2 ⟨rfl, hb2⟩
    have hb3 : Below w.heap.size w w2 := bel hb1 hb2
    have HG2 : Hid (ET w2) := ET.below HG.out hb3
    clear hb1 hb2
    go_wp2_with fail
    refine (two_val a b _ ha hb _ Hcs.out).mono ?_
    rintro e w' ⟨rfl, hw⟩
    have hw2 := hw.symm; subst hw2; clear hw
    go_wp2_with fail
    refine (quarter_ref a b _ hb).mono ?_
    rintro e w3 ⟨r, rfl, hr, hb4⟩
    have hb5 : Below w.heap.size w w3 := bel hb3 hb4
    have hre : r.toList.isEmpty = true := by rw [hr, Hq.out]; rfl
    have hrs : r.size ≤ 11 := by rw [← len_eq, hr, Hq.out]; decide
    clear hb4 hr
    go_wp2_with fail
    refine (room_val a b _ ha hb _ _ Hrl.out Hre.out).mono ?_
    rintro e w4 ⟨rfl, hb6⟩
    have hb7 : Below w.heap.size w w4 := bel hb5 hb6
    have HG4 : Hid (ET w4) := ET.below HG.out hb7
    clear hb6
    go_wp2_with fail
    refine (same_yes _ _ HG4.out).mono ?_
    rintro e w5 ⟨rfl, hb8⟩
    have hb9 : Below w.heap.size w w5 := bel hb7 hb8
    clear hb8
    have hbb := hb9
    go_wp2_with fail
    refine (bet_val a b who _ ha hb _ Htb.out _ Heb.out).mono ?_
    rintro e w7 ⟨rfl, hbc⟩
    have hbd : Below w.heap.size w w7 := bel hbb hbc
    have HG7 : Hid (ET w7) := ET.below HG.out hbd
    clear hbc
    go_wp2_with fail
    refine (same_yes _ _ HG7.out).mono ?_
    rintro e w8 ⟨rfl, hbe⟩
    have hbf : Below w.heap.size w w8 := bel hbd hbe
    clear hbe
    go_wp2_with fail
    go_ret
    exact ⟨ret_bool (by simp), hbf⟩
  · clear Hno
    go_enter Tryd.func3, Tryd.ntmps3
    go_wp2_with fail
    refine (place_val a _ ha _ Hca.out).mono ?_
    rintro e w' ⟨rfl, hw⟩
    have hw2 := hw.symm; subst hw2; clear hw
    go_wp2_with fail
    refine (check_val a _ ha _ Hca.out).mono ?_
    rintro e w' ⟨rfl, hw⟩
    have hw2 := hw.symm; subst hw2; clear hw
    go_wp2_with fail
    refine (same_yes _ _ HG.out).mono ?_
    rintro e w1 ⟨rfl, hb1⟩
    have HG1 : Hid (ET w1) := ET.below HG.out hb1
    go_wp2_with fail
    refine (whoref_val a _ haz ha _ Hwo.out).mono ?_
    rintro e w' ⟨rfl, hw⟩
    have hw2 := hw.symm; subst hw2; clear hw
    go_wp2_with fail
    refine (who_val a _ ha _ _ Hca.out Hwa.out).mono ?_
    rintro e w' ⟨rfl, hw⟩
    have hw2 := hw.symm; subst hw2; clear hw
    go_wp2_with fail
    refine (same_yes _ _ HG1.out).mono ?_
    rintro e w2 ⟨rfl, hb2⟩
    have hb3 : Below w.heap.size w w2 := bel hb1 hb2
    have HG2 : Hid (ET w2) := ET.below HG.out hb3
    clear hb1 hb2
    go_wp2_with fail
    refine (two_val a b _ ha hb _ Hcs.out).mono ?_
    rintro e w' ⟨rfl, hw⟩
    have hw2 := hw.symm; subst hw2; clear hw
    go_wp2_with fail
    refine (quarter_ref a b _ hb).mono ?_
    rintro e w3 ⟨r, rfl, hr, hb4⟩
    have hb5 : Below w.heap.size w w3 := bel hb3 hb4
    have hre : r.toList.isEmpty = true := by rw [hr, Hq.out]; rfl
    have hrs : r.size ≤ 11 := by rw [← len_eq, hr, Hq.out]; decide
    clear hb4 hr
    go_wp2_with fail
    refine (room_val a b _ ha hb _ _ Hrl.out Hre.out).mono ?_
    rintro e w4 ⟨rfl, hb6⟩
    have hb7 : Below w.heap.size w w4 := bel hb5 hb6
    have HG4 : Hid (ET w4) := ET.below HG.out hb7
    clear hb6
    go_wp2_with fail
    refine (same_yes _ _ HG4.out).mono ?_
    rintro e w5 ⟨rfl, hb8⟩
    have hb9 : Below w.heap.size w w5 := bel hb7 hb8
    clear hb8
    go_wp2_with fail
    refine (between_ref a b who _ ha hb hw1 hw8 tb Htb.out eb Heb.out).mono ?_
    rintro e w6 ⟨rfl, hba⟩
    have hbb : Below w.heap.size w w6 := bel hb9 hba
    clear hba
    go_wp2_with fail
    refine (bet_val a b who _ ha hb _ Htb.out _ Heb.out).mono ?_
    rintro e w7 ⟨rfl, hbc⟩
    have hbd : Below w.heap.size w w7 := bel hbb hbc
    have HG7 : Hid (ET w7) := ET.below HG.out hbd
    clear hbc
    go_wp2_with fail
    refine (same_yes _ _ HG7.out).mono ?_
    rintro e w8 ⟨rfl, hbe⟩
    have hbf : Below w.heap.size w w8 := bel hbd hbe
    clear hbe
    go_wp2_with fail
    go_ret
    exact ⟨ret_bool (by simp), hbf⟩

set_option maxHeartbeats 4000000 in
set_option maxRecDepth 100000 in
theorem walk_03 (a b : ByteArray) (who ca cs : Int) (w : World) (ha : a.size ≤ maxLen) (hb : b.size ≤ maxLen) (hg : ET w) (hca : Pm.chk a.toList = ca) (hca0 : ca = 0) (hcs : Pm.sides a.toList b.toList = cs) (hcs0 : cs = 0) (hq : Pm.quarter a.toList b.toList ≠ []) :
    Calls Tryd.prog 3 #[.string a, .string b, .int .i64 who] w fun e w' => e = .returned (.bool true) ∧ Below w.heap.size w w' := by
  have HG : Hid (ET w) := hg
  have Hca : Hid (Pm.chk a.toList = ca) := hca
  have Hcs : Hid (Pm.sides a.toList b.toList = cs) := hcs
  obtain ⟨wa, hwa⟩ : ∃ wa, Pm.whoR a.toList = wa := ⟨_, rfl⟩
  have Hwa : Hid (Pm.whoR a.toList = wa) := hwa
  have haz : 0 < a.size := by
    rcases Nat.eq_zero_or_pos a.size with h0 | h0
    · have hl := len_eq a
      rw [h0] at hl
      unfold Pm.chk at hca
      rw [hl] at hca
      simp at hca; omega
    · exact h0
  have Hwo : Hid (Pm.whoOf a.toList = wa) := by unfold Hid; rw [← hwa, Pm.whoR, hca, if_pos hca0]
  subst hca0
  have hqr := Pm.quarter_room a.toList b.toList (by rw [hcs, hcs0])
  rw [if_neg hq, if_neg hq] at hqr
  have Hre : Hid (Pm.roomErr a.toList b.toList = 0) := hqr.1
  have Hrl : Hid (Pm.roomLen a.toList b.toList = ((Pm.quarter a.toList b.toList).length : Int) + 1) := hqr.2
  have Hq : Hid (Pm.quarter a.toList b.toList ≠ []) := hq
  have Hq11 : Hid ((Pm.quarter a.toList b.toList).length ≤ 11) := Pm.quarter_ne.2
  clear hqr hq
  subst hcs0
  obtain ⟨tb, htb⟩ : ∃ tb : ByteArray, tb = ⟨(Pm.betText a.toList b.toList who).toArray⟩ := ⟨_, rfl⟩
  have Htb : Hid (tb = ⟨(Pm.betText a.toList b.toList who).toArray⟩) := htb
  obtain ⟨eb, heb⟩ : ∃ eb, Pm.betErr a.toList b.toList who = eb := ⟨_, rfl⟩
  have Heb : Hid (Pm.betErr a.toList b.toList who = eb) := heb
  have Hno : Hid (Pm.isWho who = false → eb = 1 ∧ tb = ⟨#[]⟩) := by
    intro hw
    exact ⟨by rw [← heb]; simp [Pm.betErr, hw], by rw [htb]; simp [Pm.betText, hw]⟩
  clear hca hcs hwa htb heb hg
  rcases (show who < 1 ∨ (1 ≤ who ∧ 8 < who) ∨ (1 ≤ who ∧ who ≤ 8) by omega) with hw1 | ⟨hw1, hw8⟩ | ⟨hw1, hw8⟩
  · obtain ⟨e1, e2⟩ := Hno.out (by simp [Pm.isWho]; omega)
    subst e1; subst e2
    clear Hno
    go_enter Tryd.func3, Tryd.ntmps3
    go_wp2_with fail
    refine (place_val a _ ha _ Hca.out).mono ?_
    rintro e w' ⟨rfl, hw⟩
    have hw2 := hw.symm; subst hw2; clear hw
    go_wp2_with fail
    refine (check_val a _ ha _ Hca.out).mono ?_
    rintro e w' ⟨rfl, hw⟩
    have hw2 := hw.symm; subst hw2; clear hw
    go_wp2_with fail
    refine (same_yes _ _ HG.out).mono ?_
    rintro e w1 ⟨rfl, hb1⟩
    have HG1 : Hid (ET w1) := ET.below HG.out hb1
    go_wp2_with fail
    refine (whoref_val a _ haz ha _ Hwo.out).mono ?_
    rintro e w' ⟨rfl, hw⟩
    have hw2 := hw.symm; subst hw2; clear hw
    go_wp2_with fail
    refine (who_val a _ ha _ _ Hca.out Hwa.out).mono ?_
    rintro e w' ⟨rfl, hw⟩
    have hw2 := hw.symm; subst hw2; clear hw
    go_wp2_with fail
    refine (same_yes _ _ HG1.out).mono ?_
    rintro e w2 ⟨rfl, hb2⟩
    have hb3 : Below w.heap.size w w2 := bel hb1 hb2
    have HG2 : Hid (ET w2) := ET.below HG.out hb3
    clear hb1 hb2
    go_wp2_with fail
    refine (two_val a b _ ha hb _ Hcs.out).mono ?_
    rintro e w' ⟨rfl, hw⟩
    have hw2 := hw.symm; subst hw2; clear hw
    go_wp2_with fail
    refine (quarter_ref a b _ hb).mono ?_
    rintro e w3 ⟨r, rfl, hr, hb4⟩
    have hb5 : Below w.heap.size w w3 := bel hb3 hb4
    have hre : r.toList.isEmpty = false := by
      rw [hr]; cases hc : Pm.quarter a.toList b.toList with
      | nil => exact absurd hc Hq.out
      | cons _ _ => rfl
    have hrs : r.size ≤ 11 := by rw [← len_eq, hr]; exact Hq11.out
    have Hrl2 : Hid (Pm.roomLen a.toList b.toList = (r.size : Int) + 1) := by unfold Hid; rw [Hrl.out, ← hr, len_eq]
    clear hb4 hr
    go_wp2_with fail
    refine (room_val a b _ ha hb _ _ Hrl2.out Hre.out).mono ?_
    rintro e w4 ⟨rfl, hb6⟩
    have hb7 : Below w.heap.size w w4 := bel hb5 hb6
    have HG4 : Hid (ET w4) := ET.below HG.out hb7
    clear hb6
    go_wp2_with fail
    refine (same_yes _ _ HG4.out).mono ?_
    rintro e w5 ⟨rfl, hb8⟩
    have hb9 : Below w.heap.size w w5 := bel hb7 hb8
    clear hb8
    have hbb := hb9
    go_wp2_with fail
    refine (bet_val a b who _ ha hb _ Htb.out _ Heb.out).mono ?_
    rintro e w7 ⟨rfl, hbc⟩
    have hbd : Below w.heap.size w w7 := bel hbb hbc
    have HG7 : Hid (ET w7) := ET.below HG.out hbd
    clear hbc
    go_wp2_with fail
    refine (same_yes _ _ HG7.out).mono ?_
    rintro e w8 ⟨rfl, hbe⟩
    have hbf : Below w.heap.size w w8 := bel hbd hbe
    clear hbe
    go_wp2_with fail
    go_ret
    exact ⟨ret_bool (by simp), hbf⟩
  · obtain ⟨e1, e2⟩ := Hno.out (by simp [Pm.isWho]; omega)
    subst e1; subst e2
    clear Hno
    go_enter Tryd.func3, Tryd.ntmps3
    go_wp2_with fail
    refine (place_val a _ ha _ Hca.out).mono ?_
    rintro e w' ⟨rfl, hw⟩
    have hw2 := hw.symm; subst hw2; clear hw
    go_wp2_with fail
    refine (check_val a _ ha _ Hca.out).mono ?_
    rintro e w' ⟨rfl, hw⟩
    have hw2 := hw.symm; subst hw2; clear hw
    go_wp2_with fail
    refine (same_yes _ _ HG.out).mono ?_
    rintro e w1 ⟨rfl, hb1⟩
    have HG1 : Hid (ET w1) := ET.below HG.out hb1
    go_wp2_with fail
    refine (whoref_val a _ haz ha _ Hwo.out).mono ?_
    rintro e w' ⟨rfl, hw⟩
    have hw2 := hw.symm; subst hw2; clear hw
    go_wp2_with fail
    refine (who_val a _ ha _ _ Hca.out Hwa.out).mono ?_
    rintro e w' ⟨rfl, hw⟩
    have hw2 := hw.symm; subst hw2; clear hw
    go_wp2_with fail
    refine (same_yes _ _ HG1.out).mono ?_
    rintro e w2 ⟨rfl, hb2⟩
    have hb3 : Below w.heap.size w w2 := bel hb1 hb2
    have HG2 : Hid (ET w2) := ET.below HG.out hb3
    clear hb1 hb2
    go_wp2_with fail
    refine (two_val a b _ ha hb _ Hcs.out).mono ?_
    rintro e w' ⟨rfl, hw⟩
    have hw2 := hw.symm; subst hw2; clear hw
    go_wp2_with fail
    refine (quarter_ref a b _ hb).mono ?_
    rintro e w3 ⟨r, rfl, hr, hb4⟩
    have hb5 : Below w.heap.size w w3 := bel hb3 hb4
    have hre : r.toList.isEmpty = false := by
      rw [hr]; cases hc : Pm.quarter a.toList b.toList with
      | nil => exact absurd hc Hq.out
      | cons _ _ => rfl
    have hrs : r.size ≤ 11 := by rw [← len_eq, hr]; exact Hq11.out
    have Hrl2 : Hid (Pm.roomLen a.toList b.toList = (r.size : Int) + 1) := by unfold Hid; rw [Hrl.out, ← hr, len_eq]
    clear hb4 hr
    go_wp2_with fail
    refine (room_val a b _ ha hb _ _ Hrl2.out Hre.out).mono ?_
    rintro e w4 ⟨rfl, hb6⟩
    have hb7 : Below w.heap.size w w4 := bel hb5 hb6
    have HG4 : Hid (ET w4) := ET.below HG.out hb7
    clear hb6
    go_wp2_with fail
    refine (same_yes _ _ HG4.out).mono ?_
    rintro e w5 ⟨rfl, hb8⟩
    have hb9 : Below w.heap.size w w5 := bel hb7 hb8
    clear hb8
    have hbb := hb9
    go_wp2_with fail
    refine (bet_val a b who _ ha hb _ Htb.out _ Heb.out).mono ?_
    rintro e w7 ⟨rfl, hbc⟩
    have hbd : Below w.heap.size w w7 := bel hbb hbc
    have HG7 : Hid (ET w7) := ET.below HG.out hbd
    clear hbc
    go_wp2_with fail
    refine (same_yes _ _ HG7.out).mono ?_
    rintro e w8 ⟨rfl, hbe⟩
    have hbf : Below w.heap.size w w8 := bel hbd hbe
    clear hbe
    go_wp2_with fail
    go_ret
    exact ⟨ret_bool (by simp), hbf⟩
  · clear Hno
    go_enter Tryd.func3, Tryd.ntmps3
    go_wp2_with fail
    refine (place_val a _ ha _ Hca.out).mono ?_
    rintro e w' ⟨rfl, hw⟩
    have hw2 := hw.symm; subst hw2; clear hw
    go_wp2_with fail
    refine (check_val a _ ha _ Hca.out).mono ?_
    rintro e w' ⟨rfl, hw⟩
    have hw2 := hw.symm; subst hw2; clear hw
    go_wp2_with fail
    refine (same_yes _ _ HG.out).mono ?_
    rintro e w1 ⟨rfl, hb1⟩
    have HG1 : Hid (ET w1) := ET.below HG.out hb1
    go_wp2_with fail
    refine (whoref_val a _ haz ha _ Hwo.out).mono ?_
    rintro e w' ⟨rfl, hw⟩
    have hw2 := hw.symm; subst hw2; clear hw
    go_wp2_with fail
    refine (who_val a _ ha _ _ Hca.out Hwa.out).mono ?_
    rintro e w' ⟨rfl, hw⟩
    have hw2 := hw.symm; subst hw2; clear hw
    go_wp2_with fail
    refine (same_yes _ _ HG1.out).mono ?_
    rintro e w2 ⟨rfl, hb2⟩
    have hb3 : Below w.heap.size w w2 := bel hb1 hb2
    have HG2 : Hid (ET w2) := ET.below HG.out hb3
    clear hb1 hb2
    go_wp2_with fail
    refine (two_val a b _ ha hb _ Hcs.out).mono ?_
    rintro e w' ⟨rfl, hw⟩
    have hw2 := hw.symm; subst hw2; clear hw
    go_wp2_with fail
    refine (quarter_ref a b _ hb).mono ?_
    rintro e w3 ⟨r, rfl, hr, hb4⟩
    have hb5 : Below w.heap.size w w3 := bel hb3 hb4
    have hre : r.toList.isEmpty = false := by
      rw [hr]; cases hc : Pm.quarter a.toList b.toList with
      | nil => exact absurd hc Hq.out
      | cons _ _ => rfl
    have hrs : r.size ≤ 11 := by rw [← len_eq, hr]; exact Hq11.out
    have Hrl2 : Hid (Pm.roomLen a.toList b.toList = (r.size : Int) + 1) := by unfold Hid; rw [Hrl.out, ← hr, len_eq]
    clear hb4 hr
    go_wp2_with fail
    refine (room_val a b _ ha hb _ _ Hrl2.out Hre.out).mono ?_
    rintro e w4 ⟨rfl, hb6⟩
    have hb7 : Below w.heap.size w w4 := bel hb5 hb6
    have HG4 : Hid (ET w4) := ET.below HG.out hb7
    clear hb6
    go_wp2_with fail
    refine (same_yes _ _ HG4.out).mono ?_
    rintro e w5 ⟨rfl, hb8⟩
    have hb9 : Below w.heap.size w w5 := bel hb7 hb8
    clear hb8
    go_wp2_with fail
    refine (between_ref a b who _ ha hb hw1 hw8 tb Htb.out eb Heb.out).mono ?_
    rintro e w6 ⟨rfl, hba⟩
    have hbb : Below w.heap.size w w6 := bel hb9 hba
    clear hba
    go_wp2_with fail
    refine (bet_val a b who _ ha hb _ Htb.out _ Heb.out).mono ?_
    rintro e w7 ⟨rfl, hbc⟩
    have hbd : Below w.heap.size w w7 := bel hbb hbc
    have HG7 : Hid (ET w7) := ET.below HG.out hbd
    clear hbc
    go_wp2_with fail
    refine (same_yes _ _ HG7.out).mono ?_
    rintro e w8 ⟨rfl, hbe⟩
    have hbf : Below w.heap.size w w8 := bel hbd hbe
    clear hbe
    go_wp2_with fail
    go_ret
    exact ⟨ret_bool (by simp), hbf⟩

set_option maxHeartbeats 4000000 in
set_option maxRecDepth 100000 in
theorem walk_11 (a b : ByteArray) (who ca cs : Int) (w : World) (ha : a.size ≤ maxLen) (hb : b.size ≤ maxLen) (hg : ET w) (hca : Pm.chk a.toList = ca) (hca0 : ca ≠ 0) (hcs : Pm.sides a.toList b.toList = cs) (hcs0 : cs ≠ 0) :
    Calls Tryd.prog 3 #[.string a, .string b, .int .i64 who] w fun e w' => e = .returned (.bool true) ∧ Below w.heap.size w w' := by
  have HG : Hid (ET w) := hg
  have Hca : Hid (Pm.chk a.toList = ca) := hca
  have Hcs : Hid (Pm.sides a.toList b.toList = cs) := hcs
  obtain ⟨wa, hwa⟩ : ∃ wa, Pm.whoR a.toList = wa := ⟨_, rfl⟩
  have Hwa : Hid (Pm.whoR a.toList = wa) := hwa
  have hw0 : wa = 0 := by rw [← hwa, Pm.whoR, hca, if_neg hca0]
  subst hw0
  have nca : (ca == 0) = false := by rw [beq_eq_false_iff_ne]; exact hca0
  have Hrl : Hid (Pm.roomLen a.toList b.toList = 0) := by unfold Hid Pm.roomLen; rw [hcs, if_pos hcs0]
  have Hre : Hid (Pm.roomErr a.toList b.toList = cs) := by unfold Hid Pm.roomErr; rw [hcs, if_pos hcs0]
  have ncs : (cs == 0) = false := by rw [beq_eq_false_iff_ne]; exact hcs0
  obtain ⟨tb, htb⟩ : ∃ tb : ByteArray, tb = ⟨(Pm.betText a.toList b.toList who).toArray⟩ := ⟨_, rfl⟩
  have Htb : Hid (tb = ⟨(Pm.betText a.toList b.toList who).toArray⟩) := htb
  obtain ⟨eb, heb⟩ : ∃ eb, Pm.betErr a.toList b.toList who = eb := ⟨_, rfl⟩
  have Heb : Hid (Pm.betErr a.toList b.toList who = eb) := heb
  have Hno : Hid (Pm.isWho who = false → eb = 1 ∧ tb = ⟨#[]⟩) := by
    intro hw
    exact ⟨by rw [← heb]; simp [Pm.betErr, hw], by rw [htb]; simp [Pm.betText, hw]⟩
  clear hca hcs hwa htb heb hg
  rcases (show who < 1 ∨ (1 ≤ who ∧ 8 < who) ∨ (1 ≤ who ∧ who ≤ 8) by omega) with hw1 | ⟨hw1, hw8⟩ | ⟨hw1, hw8⟩
  · obtain ⟨e1, e2⟩ := Hno.out (by simp [Pm.isWho]; omega)
    subst e1; subst e2
    clear Hno
    go_enter Tryd.func3, Tryd.ntmps3
    go_wp2_with fail
    refine (place_val a _ ha _ Hca.out).mono ?_
    rintro e w' ⟨rfl, hw⟩
    have hw2 := hw.symm; subst hw2; clear hw
    go_wp2_with fail
    refine (check_val a _ ha _ Hca.out).mono ?_
    rintro e w' ⟨rfl, hw⟩
    have hw2 := hw.symm; subst hw2; clear hw
    go_wp2_with fail
    refine (same_yes _ _ HG.out).mono ?_
    rintro e w1 ⟨rfl, hb1⟩
    have HG1 : Hid (ET w1) := ET.below HG.out hb1
    go_wp2_with fail
    refine (who_val a _ ha _ _ Hca.out Hwa.out).mono ?_
    rintro e w' ⟨rfl, hw⟩
    have hw2 := hw.symm; subst hw2; clear hw
    go_wp2_with fail
    refine (same_yes _ _ HG1.out).mono ?_
    rintro e w2 ⟨rfl, hb2⟩
    have hb3 : Below w.heap.size w w2 := bel hb1 hb2
    have HG2 : Hid (ET w2) := ET.below HG.out hb3
    clear hb1 hb2
    go_wp2_with fail
    refine (two_val a b _ ha hb _ Hcs.out).mono ?_
    rintro e w' ⟨rfl, hw⟩
    have hw2 := hw.symm; subst hw2; clear hw
    have hb5 := hb3
    go_wp2_with fail
    refine (room_val a b _ ha hb _ _ Hrl.out Hre.out).mono ?_
    rintro e w4 ⟨rfl, hb6⟩
    have hb7 : Below w.heap.size w w4 := bel hb5 hb6
    have HG4 : Hid (ET w4) := ET.below HG.out hb7
    clear hb6
    go_wp2_with fail
    refine (same_yes _ _ HG4.out).mono ?_
    rintro e w5 ⟨rfl, hb8⟩
    have hb9 : Below w.heap.size w w5 := bel hb7 hb8
    clear hb8
    have hbb := hb9
    go_wp2_with fail
    refine (bet_val a b who _ ha hb _ Htb.out _ Heb.out).mono ?_
    rintro e w7 ⟨rfl, hbc⟩
    have hbd : Below w.heap.size w w7 := bel hbb hbc
    have HG7 : Hid (ET w7) := ET.below HG.out hbd
    clear hbc
    go_wp2_with fail
    refine (same_yes _ _ HG7.out).mono ?_
    rintro e w8 ⟨rfl, hbe⟩
    have hbf : Below w.heap.size w w8 := bel hbd hbe
    clear hbe
    go_wp2_with fail
    go_ret
    exact ⟨ret_bool (by simp), hbf⟩
  · obtain ⟨e1, e2⟩ := Hno.out (by simp [Pm.isWho]; omega)
    subst e1; subst e2
    clear Hno
    go_enter Tryd.func3, Tryd.ntmps3
    go_wp2_with fail
    refine (place_val a _ ha _ Hca.out).mono ?_
    rintro e w' ⟨rfl, hw⟩
    have hw2 := hw.symm; subst hw2; clear hw
    go_wp2_with fail
    refine (check_val a _ ha _ Hca.out).mono ?_
    rintro e w' ⟨rfl, hw⟩
    have hw2 := hw.symm; subst hw2; clear hw
    go_wp2_with fail
    refine (same_yes _ _ HG.out).mono ?_
    rintro e w1 ⟨rfl, hb1⟩
    have HG1 : Hid (ET w1) := ET.below HG.out hb1
    go_wp2_with fail
    refine (who_val a _ ha _ _ Hca.out Hwa.out).mono ?_
    rintro e w' ⟨rfl, hw⟩
    have hw2 := hw.symm; subst hw2; clear hw
    go_wp2_with fail
    refine (same_yes _ _ HG1.out).mono ?_
    rintro e w2 ⟨rfl, hb2⟩
    have hb3 : Below w.heap.size w w2 := bel hb1 hb2
    have HG2 : Hid (ET w2) := ET.below HG.out hb3
    clear hb1 hb2
    go_wp2_with fail
    refine (two_val a b _ ha hb _ Hcs.out).mono ?_
    rintro e w' ⟨rfl, hw⟩
    have hw2 := hw.symm; subst hw2; clear hw
    have hb5 := hb3
    go_wp2_with fail
    refine (room_val a b _ ha hb _ _ Hrl.out Hre.out).mono ?_
    rintro e w4 ⟨rfl, hb6⟩
    have hb7 : Below w.heap.size w w4 := bel hb5 hb6
    have HG4 : Hid (ET w4) := ET.below HG.out hb7
    clear hb6
    go_wp2_with fail
    refine (same_yes _ _ HG4.out).mono ?_
    rintro e w5 ⟨rfl, hb8⟩
    have hb9 : Below w.heap.size w w5 := bel hb7 hb8
    clear hb8
    have hbb := hb9
    go_wp2_with fail
    refine (bet_val a b who _ ha hb _ Htb.out _ Heb.out).mono ?_
    rintro e w7 ⟨rfl, hbc⟩
    have hbd : Below w.heap.size w w7 := bel hbb hbc
    have HG7 : Hid (ET w7) := ET.below HG.out hbd
    clear hbc
    go_wp2_with fail
    refine (same_yes _ _ HG7.out).mono ?_
    rintro e w8 ⟨rfl, hbe⟩
    have hbf : Below w.heap.size w w8 := bel hbd hbe
    clear hbe
    go_wp2_with fail
    go_ret
    exact ⟨ret_bool (by simp), hbf⟩
  · clear Hno
    go_enter Tryd.func3, Tryd.ntmps3
    go_wp2_with fail
    refine (place_val a _ ha _ Hca.out).mono ?_
    rintro e w' ⟨rfl, hw⟩
    have hw2 := hw.symm; subst hw2; clear hw
    go_wp2_with fail
    refine (check_val a _ ha _ Hca.out).mono ?_
    rintro e w' ⟨rfl, hw⟩
    have hw2 := hw.symm; subst hw2; clear hw
    go_wp2_with fail
    refine (same_yes _ _ HG.out).mono ?_
    rintro e w1 ⟨rfl, hb1⟩
    have HG1 : Hid (ET w1) := ET.below HG.out hb1
    go_wp2_with fail
    refine (who_val a _ ha _ _ Hca.out Hwa.out).mono ?_
    rintro e w' ⟨rfl, hw⟩
    have hw2 := hw.symm; subst hw2; clear hw
    go_wp2_with fail
    refine (same_yes _ _ HG1.out).mono ?_
    rintro e w2 ⟨rfl, hb2⟩
    have hb3 : Below w.heap.size w w2 := bel hb1 hb2
    have HG2 : Hid (ET w2) := ET.below HG.out hb3
    clear hb1 hb2
    go_wp2_with fail
    refine (two_val a b _ ha hb _ Hcs.out).mono ?_
    rintro e w' ⟨rfl, hw⟩
    have hw2 := hw.symm; subst hw2; clear hw
    have hb5 := hb3
    go_wp2_with fail
    refine (room_val a b _ ha hb _ _ Hrl.out Hre.out).mono ?_
    rintro e w4 ⟨rfl, hb6⟩
    have hb7 : Below w.heap.size w w4 := bel hb5 hb6
    have HG4 : Hid (ET w4) := ET.below HG.out hb7
    clear hb6
    go_wp2_with fail
    refine (same_yes _ _ HG4.out).mono ?_
    rintro e w5 ⟨rfl, hb8⟩
    have hb9 : Below w.heap.size w w5 := bel hb7 hb8
    clear hb8
    go_wp2_with fail
    refine (between_ref a b who _ ha hb hw1 hw8 tb Htb.out eb Heb.out).mono ?_
    rintro e w6 ⟨rfl, hba⟩
    have hbb : Below w.heap.size w w6 := bel hb9 hba
    clear hba
    go_wp2_with fail
    refine (bet_val a b who _ ha hb _ Htb.out _ Heb.out).mono ?_
    rintro e w7 ⟨rfl, hbc⟩
    have hbd : Below w.heap.size w w7 := bel hbb hbc
    have HG7 : Hid (ET w7) := ET.below HG.out hbd
    clear hbc
    go_wp2_with fail
    refine (same_yes _ _ HG7.out).mono ?_
    rintro e w8 ⟨rfl, hbe⟩
    have hbf : Below w.heap.size w w8 := bel hbd hbe
    clear hbe
    go_wp2_with fail
    go_ret
    exact ⟨ret_bool (by simp), hbf⟩

set_option maxHeartbeats 4000000 in
set_option maxRecDepth 100000 in
theorem walk_12 (a b : ByteArray) (who ca cs : Int) (w : World) (ha : a.size ≤ maxLen) (hb : b.size ≤ maxLen) (hg : ET w) (hca : Pm.chk a.toList = ca) (hca0 : ca ≠ 0) (hcs : Pm.sides a.toList b.toList = cs) (hcs0 : cs = 0) (hq : Pm.quarter a.toList b.toList = []) :
    Calls Tryd.prog 3 #[.string a, .string b, .int .i64 who] w fun e w' => e = .returned (.bool true) ∧ Below w.heap.size w w' := by
  have HG : Hid (ET w) := hg
  have Hca : Hid (Pm.chk a.toList = ca) := hca
  have Hcs : Hid (Pm.sides a.toList b.toList = cs) := hcs
  obtain ⟨wa, hwa⟩ : ∃ wa, Pm.whoR a.toList = wa := ⟨_, rfl⟩
  have Hwa : Hid (Pm.whoR a.toList = wa) := hwa
  have hw0 : wa = 0 := by rw [← hwa, Pm.whoR, hca, if_neg hca0]
  subst hw0
  have nca : (ca == 0) = false := by rw [beq_eq_false_iff_ne]; exact hca0
  have hqr := Pm.quarter_room a.toList b.toList (by rw [hcs, hcs0])
  rw [if_pos hq, if_pos hq] at hqr
  have Hre : Hid (Pm.roomErr a.toList b.toList = 8) := hqr.1
  have Hrl : Hid (Pm.roomLen a.toList b.toList = 0) := hqr.2
  have Hq : Hid (Pm.quarter a.toList b.toList = []) := hq
  clear hqr hq
  subst hcs0
  obtain ⟨tb, htb⟩ : ∃ tb : ByteArray, tb = ⟨(Pm.betText a.toList b.toList who).toArray⟩ := ⟨_, rfl⟩
  have Htb : Hid (tb = ⟨(Pm.betText a.toList b.toList who).toArray⟩) := htb
  obtain ⟨eb, heb⟩ : ∃ eb, Pm.betErr a.toList b.toList who = eb := ⟨_, rfl⟩
  have Heb : Hid (Pm.betErr a.toList b.toList who = eb) := heb
  have Hno : Hid (Pm.isWho who = false → eb = 1 ∧ tb = ⟨#[]⟩) := by
    intro hw
    exact ⟨by rw [← heb]; simp [Pm.betErr, hw], by rw [htb]; simp [Pm.betText, hw]⟩
  clear hca hcs hwa htb heb hg
  rcases (show who < 1 ∨ (1 ≤ who ∧ 8 < who) ∨ (1 ≤ who ∧ who ≤ 8) by omega) with hw1 | ⟨hw1, hw8⟩ | ⟨hw1, hw8⟩
  · obtain ⟨e1, e2⟩ := Hno.out (by simp [Pm.isWho]; omega)
    subst e1; subst e2
    clear Hno
    go_enter Tryd.func3, Tryd.ntmps3
    go_wp2_with fail
    refine (place_val a _ ha _ Hca.out).mono ?_
    rintro e w' ⟨rfl, hw⟩
    have hw2 := hw.symm; subst hw2; clear hw
    go_wp2_with fail
    refine (check_val a _ ha _ Hca.out).mono ?_
    rintro e w' ⟨rfl, hw⟩
    have hw2 := hw.symm; subst hw2; clear hw
    go_wp2_with fail
    refine (same_yes _ _ HG.out).mono ?_
    rintro e w1 ⟨rfl, hb1⟩
    have HG1 : Hid (ET w1) := ET.below HG.out hb1
    go_wp2_with fail
    refine (who_val a _ ha _ _ Hca.out Hwa.out).mono ?_
    rintro e w' ⟨rfl, hw⟩
    have hw2 := hw.symm; subst hw2; clear hw
    go_wp2_with fail
    refine (same_yes _ _ HG1.out).mono ?_
    rintro e w2 ⟨rfl, hb2⟩
    have hb3 : Below w.heap.size w w2 := bel hb1 hb2
    have HG2 : Hid (ET w2) := ET.below HG.out hb3
    clear hb1 hb2
    go_wp2_with fail
    refine (two_val a b _ ha hb _ Hcs.out).mono ?_
    rintro e w' ⟨rfl, hw⟩
    have hw2 := hw.symm; subst hw2; clear hw
    go_wp2_with fail
    refine (quarter_ref a b _ hb).mono ?_
    rintro e w3 ⟨r, rfl, hr, hb4⟩
    have hb5 : Below w.heap.size w w3 := bel hb3 hb4
    have hre : r.toList.isEmpty = true := by rw [hr, Hq.out]; rfl
    have hrs : r.size ≤ 11 := by rw [← len_eq, hr, Hq.out]; decide
    clear hb4 hr
    go_wp2_with fail
    refine (room_val a b _ ha hb _ _ Hrl.out Hre.out).mono ?_
    rintro e w4 ⟨rfl, hb6⟩
    have hb7 : Below w.heap.size w w4 := bel hb5 hb6
    have HG4 : Hid (ET w4) := ET.below HG.out hb7
    clear hb6
    go_wp2_with fail
    refine (same_yes _ _ HG4.out).mono ?_
    rintro e w5 ⟨rfl, hb8⟩
    have hb9 : Below w.heap.size w w5 := bel hb7 hb8
    clear hb8
    have hbb := hb9
    go_wp2_with fail
    refine (bet_val a b who _ ha hb _ Htb.out _ Heb.out).mono ?_
    rintro e w7 ⟨rfl, hbc⟩
    have hbd : Below w.heap.size w w7 := bel hbb hbc
    have HG7 : Hid (ET w7) := ET.below HG.out hbd
    clear hbc
    go_wp2_with fail
    refine (same_yes _ _ HG7.out).mono ?_
    rintro e w8 ⟨rfl, hbe⟩
    have hbf : Below w.heap.size w w8 := bel hbd hbe
    clear hbe
    go_wp2_with fail
    go_ret
    exact ⟨ret_bool (by simp), hbf⟩
  · obtain ⟨e1, e2⟩ := Hno.out (by simp [Pm.isWho]; omega)
    subst e1; subst e2
    clear Hno
    go_enter Tryd.func3, Tryd.ntmps3
    go_wp2_with fail
    refine (place_val a _ ha _ Hca.out).mono ?_
    rintro e w' ⟨rfl, hw⟩
    have hw2 := hw.symm; subst hw2; clear hw
    go_wp2_with fail
    refine (check_val a _ ha _ Hca.out).mono ?_
    rintro e w' ⟨rfl, hw⟩
    have hw2 := hw.symm; subst hw2; clear hw
    go_wp2_with fail
    refine (same_yes _ _ HG.out).mono ?_
    rintro e w1 ⟨rfl, hb1⟩
    have HG1 : Hid (ET w1) := ET.below HG.out hb1
    go_wp2_with fail
    refine (who_val a _ ha _ _ Hca.out Hwa.out).mono ?_
    rintro e w' ⟨rfl, hw⟩
    have hw2 := hw.symm; subst hw2; clear hw
    go_wp2_with fail
    refine (same_yes _ _ HG1.out).mono ?_
    rintro e w2 ⟨rfl, hb2⟩
    have hb3 : Below w.heap.size w w2 := bel hb1 hb2
    have HG2 : Hid (ET w2) := ET.below HG.out hb3
    clear hb1 hb2
    go_wp2_with fail
    refine (two_val a b _ ha hb _ Hcs.out).mono ?_
    rintro e w' ⟨rfl, hw⟩
    have hw2 := hw.symm; subst hw2; clear hw
    go_wp2_with fail
    refine (quarter_ref a b _ hb).mono ?_
    rintro e w3 ⟨r, rfl, hr, hb4⟩
    have hb5 : Below w.heap.size w w3 := bel hb3 hb4
    have hre : r.toList.isEmpty = true := by rw [hr, Hq.out]; rfl
    have hrs : r.size ≤ 11 := by rw [← len_eq, hr, Hq.out]; decide
    clear hb4 hr
    go_wp2_with fail
    refine (room_val a b _ ha hb _ _ Hrl.out Hre.out).mono ?_
    rintro e w4 ⟨rfl, hb6⟩
    have hb7 : Below w.heap.size w w4 := bel hb5 hb6
    have HG4 : Hid (ET w4) := ET.below HG.out hb7
    clear hb6
    go_wp2_with fail
    refine (same_yes _ _ HG4.out).mono ?_
    rintro e w5 ⟨rfl, hb8⟩
    have hb9 : Below w.heap.size w w5 := bel hb7 hb8
    clear hb8
    have hbb := hb9
    go_wp2_with fail
    refine (bet_val a b who _ ha hb _ Htb.out _ Heb.out).mono ?_
    rintro e w7 ⟨rfl, hbc⟩
    have hbd : Below w.heap.size w w7 := bel hbb hbc
    have HG7 : Hid (ET w7) := ET.below HG.out hbd
    clear hbc
    go_wp2_with fail
    refine (same_yes _ _ HG7.out).mono ?_
    rintro e w8 ⟨rfl, hbe⟩
    have hbf : Below w.heap.size w w8 := bel hbd hbe
    clear hbe
    go_wp2_with fail
    go_ret
    exact ⟨ret_bool (by simp), hbf⟩
  · clear Hno
    go_enter Tryd.func3, Tryd.ntmps3
    go_wp2_with fail
    refine (place_val a _ ha _ Hca.out).mono ?_
    rintro e w' ⟨rfl, hw⟩
    have hw2 := hw.symm; subst hw2; clear hw
    go_wp2_with fail
    refine (check_val a _ ha _ Hca.out).mono ?_
    rintro e w' ⟨rfl, hw⟩
    have hw2 := hw.symm; subst hw2; clear hw
    go_wp2_with fail
    refine (same_yes _ _ HG.out).mono ?_
    rintro e w1 ⟨rfl, hb1⟩
    have HG1 : Hid (ET w1) := ET.below HG.out hb1
    go_wp2_with fail
    refine (who_val a _ ha _ _ Hca.out Hwa.out).mono ?_
    rintro e w' ⟨rfl, hw⟩
    have hw2 := hw.symm; subst hw2; clear hw
    go_wp2_with fail
    refine (same_yes _ _ HG1.out).mono ?_
    rintro e w2 ⟨rfl, hb2⟩
    have hb3 : Below w.heap.size w w2 := bel hb1 hb2
    have HG2 : Hid (ET w2) := ET.below HG.out hb3
    clear hb1 hb2
    go_wp2_with fail
    refine (two_val a b _ ha hb _ Hcs.out).mono ?_
    rintro e w' ⟨rfl, hw⟩
    have hw2 := hw.symm; subst hw2; clear hw
    go_wp2_with fail
    refine (quarter_ref a b _ hb).mono ?_
    rintro e w3 ⟨r, rfl, hr, hb4⟩
    have hb5 : Below w.heap.size w w3 := bel hb3 hb4
    have hre : r.toList.isEmpty = true := by rw [hr, Hq.out]; rfl
    have hrs : r.size ≤ 11 := by rw [← len_eq, hr, Hq.out]; decide
    clear hb4 hr
    go_wp2_with fail
    refine (room_val a b _ ha hb _ _ Hrl.out Hre.out).mono ?_
    rintro e w4 ⟨rfl, hb6⟩
    have hb7 : Below w.heap.size w w4 := bel hb5 hb6
    have HG4 : Hid (ET w4) := ET.below HG.out hb7
    clear hb6
    go_wp2_with fail
    refine (same_yes _ _ HG4.out).mono ?_
    rintro e w5 ⟨rfl, hb8⟩
    have hb9 : Below w.heap.size w w5 := bel hb7 hb8
    clear hb8
    go_wp2_with fail
    refine (between_ref a b who _ ha hb hw1 hw8 tb Htb.out eb Heb.out).mono ?_
    rintro e w6 ⟨rfl, hba⟩
    have hbb : Below w.heap.size w w6 := bel hb9 hba
    clear hba
    go_wp2_with fail
    refine (bet_val a b who _ ha hb _ Htb.out _ Heb.out).mono ?_
    rintro e w7 ⟨rfl, hbc⟩
    have hbd : Below w.heap.size w w7 := bel hbb hbc
    have HG7 : Hid (ET w7) := ET.below HG.out hbd
    clear hbc
    go_wp2_with fail
    refine (same_yes _ _ HG7.out).mono ?_
    rintro e w8 ⟨rfl, hbe⟩
    have hbf : Below w.heap.size w w8 := bel hbd hbe
    clear hbe
    go_wp2_with fail
    go_ret
    exact ⟨ret_bool (by simp), hbf⟩

set_option maxHeartbeats 4000000 in
set_option maxRecDepth 100000 in
theorem walk_13 (a b : ByteArray) (who ca cs : Int) (w : World) (ha : a.size ≤ maxLen) (hb : b.size ≤ maxLen) (hg : ET w) (hca : Pm.chk a.toList = ca) (hca0 : ca ≠ 0) (hcs : Pm.sides a.toList b.toList = cs) (hcs0 : cs = 0) (hq : Pm.quarter a.toList b.toList ≠ []) :
    Calls Tryd.prog 3 #[.string a, .string b, .int .i64 who] w fun e w' => e = .returned (.bool true) ∧ Below w.heap.size w w' := by
  have HG : Hid (ET w) := hg
  have Hca : Hid (Pm.chk a.toList = ca) := hca
  have Hcs : Hid (Pm.sides a.toList b.toList = cs) := hcs
  obtain ⟨wa, hwa⟩ : ∃ wa, Pm.whoR a.toList = wa := ⟨_, rfl⟩
  have Hwa : Hid (Pm.whoR a.toList = wa) := hwa
  have hw0 : wa = 0 := by rw [← hwa, Pm.whoR, hca, if_neg hca0]
  subst hw0
  have nca : (ca == 0) = false := by rw [beq_eq_false_iff_ne]; exact hca0
  have hqr := Pm.quarter_room a.toList b.toList (by rw [hcs, hcs0])
  rw [if_neg hq, if_neg hq] at hqr
  have Hre : Hid (Pm.roomErr a.toList b.toList = 0) := hqr.1
  have Hrl : Hid (Pm.roomLen a.toList b.toList = ((Pm.quarter a.toList b.toList).length : Int) + 1) := hqr.2
  have Hq : Hid (Pm.quarter a.toList b.toList ≠ []) := hq
  have Hq11 : Hid ((Pm.quarter a.toList b.toList).length ≤ 11) := Pm.quarter_ne.2
  clear hqr hq
  subst hcs0
  obtain ⟨tb, htb⟩ : ∃ tb : ByteArray, tb = ⟨(Pm.betText a.toList b.toList who).toArray⟩ := ⟨_, rfl⟩
  have Htb : Hid (tb = ⟨(Pm.betText a.toList b.toList who).toArray⟩) := htb
  obtain ⟨eb, heb⟩ : ∃ eb, Pm.betErr a.toList b.toList who = eb := ⟨_, rfl⟩
  have Heb : Hid (Pm.betErr a.toList b.toList who = eb) := heb
  have Hno : Hid (Pm.isWho who = false → eb = 1 ∧ tb = ⟨#[]⟩) := by
    intro hw
    exact ⟨by rw [← heb]; simp [Pm.betErr, hw], by rw [htb]; simp [Pm.betText, hw]⟩
  clear hca hcs hwa htb heb hg
  rcases (show who < 1 ∨ (1 ≤ who ∧ 8 < who) ∨ (1 ≤ who ∧ who ≤ 8) by omega) with hw1 | ⟨hw1, hw8⟩ | ⟨hw1, hw8⟩
  · obtain ⟨e1, e2⟩ := Hno.out (by simp [Pm.isWho]; omega)
    subst e1; subst e2
    clear Hno
    go_enter Tryd.func3, Tryd.ntmps3
    go_wp2_with fail
    refine (place_val a _ ha _ Hca.out).mono ?_
    rintro e w' ⟨rfl, hw⟩
    have hw2 := hw.symm; subst hw2; clear hw
    go_wp2_with fail
    refine (check_val a _ ha _ Hca.out).mono ?_
    rintro e w' ⟨rfl, hw⟩
    have hw2 := hw.symm; subst hw2; clear hw
    go_wp2_with fail
    refine (same_yes _ _ HG.out).mono ?_
    rintro e w1 ⟨rfl, hb1⟩
    have HG1 : Hid (ET w1) := ET.below HG.out hb1
    go_wp2_with fail
    refine (who_val a _ ha _ _ Hca.out Hwa.out).mono ?_
    rintro e w' ⟨rfl, hw⟩
    have hw2 := hw.symm; subst hw2; clear hw
    go_wp2_with fail
    refine (same_yes _ _ HG1.out).mono ?_
    rintro e w2 ⟨rfl, hb2⟩
    have hb3 : Below w.heap.size w w2 := bel hb1 hb2
    have HG2 : Hid (ET w2) := ET.below HG.out hb3
    clear hb1 hb2
    go_wp2_with fail
    refine (two_val a b _ ha hb _ Hcs.out).mono ?_
    rintro e w' ⟨rfl, hw⟩
    have hw2 := hw.symm; subst hw2; clear hw
    go_wp2_with fail
    refine (quarter_ref a b _ hb).mono ?_
    rintro e w3 ⟨r, rfl, hr, hb4⟩
    have hb5 : Below w.heap.size w w3 := bel hb3 hb4
    have hre : r.toList.isEmpty = false := by
      rw [hr]; cases hc : Pm.quarter a.toList b.toList with
      | nil => exact absurd hc Hq.out
      | cons _ _ => rfl
    have hrs : r.size ≤ 11 := by rw [← len_eq, hr]; exact Hq11.out
    have Hrl2 : Hid (Pm.roomLen a.toList b.toList = (r.size : Int) + 1) := by unfold Hid; rw [Hrl.out, ← hr, len_eq]
    clear hb4 hr
    go_wp2_with fail
    refine (room_val a b _ ha hb _ _ Hrl2.out Hre.out).mono ?_
    rintro e w4 ⟨rfl, hb6⟩
    have hb7 : Below w.heap.size w w4 := bel hb5 hb6
    have HG4 : Hid (ET w4) := ET.below HG.out hb7
    clear hb6
    go_wp2_with fail
    refine (same_yes _ _ HG4.out).mono ?_
    rintro e w5 ⟨rfl, hb8⟩
    have hb9 : Below w.heap.size w w5 := bel hb7 hb8
    clear hb8
    have hbb := hb9
    go_wp2_with fail
    refine (bet_val a b who _ ha hb _ Htb.out _ Heb.out).mono ?_
    rintro e w7 ⟨rfl, hbc⟩
    have hbd : Below w.heap.size w w7 := bel hbb hbc
    have HG7 : Hid (ET w7) := ET.below HG.out hbd
    clear hbc
    go_wp2_with fail
    refine (same_yes _ _ HG7.out).mono ?_
    rintro e w8 ⟨rfl, hbe⟩
    have hbf : Below w.heap.size w w8 := bel hbd hbe
    clear hbe
    go_wp2_with fail
    go_ret
    exact ⟨ret_bool (by simp), hbf⟩
  · obtain ⟨e1, e2⟩ := Hno.out (by simp [Pm.isWho]; omega)
    subst e1; subst e2
    clear Hno
    go_enter Tryd.func3, Tryd.ntmps3
    go_wp2_with fail
    refine (place_val a _ ha _ Hca.out).mono ?_
    rintro e w' ⟨rfl, hw⟩
    have hw2 := hw.symm; subst hw2; clear hw
    go_wp2_with fail
    refine (check_val a _ ha _ Hca.out).mono ?_
    rintro e w' ⟨rfl, hw⟩
    have hw2 := hw.symm; subst hw2; clear hw
    go_wp2_with fail
    refine (same_yes _ _ HG.out).mono ?_
    rintro e w1 ⟨rfl, hb1⟩
    have HG1 : Hid (ET w1) := ET.below HG.out hb1
    go_wp2_with fail
    refine (who_val a _ ha _ _ Hca.out Hwa.out).mono ?_
    rintro e w' ⟨rfl, hw⟩
    have hw2 := hw.symm; subst hw2; clear hw
    go_wp2_with fail
    refine (same_yes _ _ HG1.out).mono ?_
    rintro e w2 ⟨rfl, hb2⟩
    have hb3 : Below w.heap.size w w2 := bel hb1 hb2
    have HG2 : Hid (ET w2) := ET.below HG.out hb3
    clear hb1 hb2
    go_wp2_with fail
    refine (two_val a b _ ha hb _ Hcs.out).mono ?_
    rintro e w' ⟨rfl, hw⟩
    have hw2 := hw.symm; subst hw2; clear hw
    go_wp2_with fail
    refine (quarter_ref a b _ hb).mono ?_
    rintro e w3 ⟨r, rfl, hr, hb4⟩
    have hb5 : Below w.heap.size w w3 := bel hb3 hb4
    have hre : r.toList.isEmpty = false := by
      rw [hr]; cases hc : Pm.quarter a.toList b.toList with
      | nil => exact absurd hc Hq.out
      | cons _ _ => rfl
    have hrs : r.size ≤ 11 := by rw [← len_eq, hr]; exact Hq11.out
    have Hrl2 : Hid (Pm.roomLen a.toList b.toList = (r.size : Int) + 1) := by unfold Hid; rw [Hrl.out, ← hr, len_eq]
    clear hb4 hr
    go_wp2_with fail
    refine (room_val a b _ ha hb _ _ Hrl2.out Hre.out).mono ?_
    rintro e w4 ⟨rfl, hb6⟩
    have hb7 : Below w.heap.size w w4 := bel hb5 hb6
    have HG4 : Hid (ET w4) := ET.below HG.out hb7
    clear hb6
    go_wp2_with fail
    refine (same_yes _ _ HG4.out).mono ?_
    rintro e w5 ⟨rfl, hb8⟩
    have hb9 : Below w.heap.size w w5 := bel hb7 hb8
    clear hb8
    have hbb := hb9
    go_wp2_with fail
    refine (bet_val a b who _ ha hb _ Htb.out _ Heb.out).mono ?_
    rintro e w7 ⟨rfl, hbc⟩
    have hbd : Below w.heap.size w w7 := bel hbb hbc
    have HG7 : Hid (ET w7) := ET.below HG.out hbd
    clear hbc
    go_wp2_with fail
    refine (same_yes _ _ HG7.out).mono ?_
    rintro e w8 ⟨rfl, hbe⟩
    have hbf : Below w.heap.size w w8 := bel hbd hbe
    clear hbe
    go_wp2_with fail
    go_ret
    exact ⟨ret_bool (by simp), hbf⟩
  · clear Hno
    go_enter Tryd.func3, Tryd.ntmps3
    go_wp2_with fail
    refine (place_val a _ ha _ Hca.out).mono ?_
    rintro e w' ⟨rfl, hw⟩
    have hw2 := hw.symm; subst hw2; clear hw
    go_wp2_with fail
    refine (check_val a _ ha _ Hca.out).mono ?_
    rintro e w' ⟨rfl, hw⟩
    have hw2 := hw.symm; subst hw2; clear hw
    go_wp2_with fail
    refine (same_yes _ _ HG.out).mono ?_
    rintro e w1 ⟨rfl, hb1⟩
    have HG1 : Hid (ET w1) := ET.below HG.out hb1
    go_wp2_with fail
    refine (who_val a _ ha _ _ Hca.out Hwa.out).mono ?_
    rintro e w' ⟨rfl, hw⟩
    have hw2 := hw.symm; subst hw2; clear hw
    go_wp2_with fail
    refine (same_yes _ _ HG1.out).mono ?_
    rintro e w2 ⟨rfl, hb2⟩
    have hb3 : Below w.heap.size w w2 := bel hb1 hb2
    have HG2 : Hid (ET w2) := ET.below HG.out hb3
    clear hb1 hb2
    go_wp2_with fail
    refine (two_val a b _ ha hb _ Hcs.out).mono ?_
    rintro e w' ⟨rfl, hw⟩
    have hw2 := hw.symm; subst hw2; clear hw
    go_wp2_with fail
    refine (quarter_ref a b _ hb).mono ?_
    rintro e w3 ⟨r, rfl, hr, hb4⟩
    have hb5 : Below w.heap.size w w3 := bel hb3 hb4
    have hre : r.toList.isEmpty = false := by
      rw [hr]; cases hc : Pm.quarter a.toList b.toList with
      | nil => exact absurd hc Hq.out
      | cons _ _ => rfl
    have hrs : r.size ≤ 11 := by rw [← len_eq, hr]; exact Hq11.out
    have Hrl2 : Hid (Pm.roomLen a.toList b.toList = (r.size : Int) + 1) := by unfold Hid; rw [Hrl.out, ← hr, len_eq]
    clear hb4 hr
    go_wp2_with fail
    refine (room_val a b _ ha hb _ _ Hrl2.out Hre.out).mono ?_
    rintro e w4 ⟨rfl, hb6⟩
    have hb7 : Below w.heap.size w w4 := bel hb5 hb6
    have HG4 : Hid (ET w4) := ET.below HG.out hb7
    clear hb6
    go_wp2_with fail
    refine (same_yes _ _ HG4.out).mono ?_
    rintro e w5 ⟨rfl, hb8⟩
    have hb9 : Below w.heap.size w w5 := bel hb7 hb8
    clear hb8
    go_wp2_with fail
    refine (between_ref a b who _ ha hb hw1 hw8 tb Htb.out eb Heb.out).mono ?_
    rintro e w6 ⟨rfl, hba⟩
    have hbb : Below w.heap.size w w6 := bel hb9 hba
    clear hba
    go_wp2_with fail
    refine (bet_val a b who _ ha hb _ Htb.out _ Heb.out).mono ?_
    rintro e w7 ⟨rfl, hbc⟩
    have hbd : Below w.heap.size w w7 := bel hbb hbc
    have HG7 : Hid (ET w7) := ET.below HG.out hbd
    clear hbc
    go_wp2_with fail
    refine (same_yes _ _ HG7.out).mono ?_
    rintro e w8 ⟨rfl, hbe⟩
    have hbf : Below w.heap.size w w8 := bel hbd hbe
    clear hbe
    go_wp2_with fail
    go_ret
    exact ⟨ret_bool (by simp), hbf⟩

end Qj
end Go.Proofs.YtekcjhembcdgfaaDoor
