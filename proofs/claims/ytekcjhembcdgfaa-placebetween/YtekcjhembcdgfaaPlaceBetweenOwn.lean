/- PlaceBetween: for every two texts and every two numbers, the law returns true: the place between two others is above the one, below the other, a place of its author, as long as there was said to be room; of two authors not the same. No condition. -/
import Derived.Test.YtekcjhembcdgfaaPe
import Derived.Test.YtekcjhembcdgfaaPr
import Derived.ShutString
namespace Go.Proofs.Ytekcjhembcdgfaa
namespace PlaceBetweenOwn
set_option linter.unusedVariables false
open Go.ChangeShapes Go.WideShapes Go.ChangeAt Go.RowKit Pa Pb Pc Pd Pe
open Go.ChangeMaps (open_string shut_string)

theorem own : ownKnob Try.prog.godebug = none := by kernel_rfl

theorem first_any (w : World) :
    Calls Try.prog 6 #[.string ⟨#[]⟩, .string ⟨#[]⟩, .int .i64 1] w fun e w' => e = .returned (.tuple #[.string ⟨#[104, 98]⟩, .nilIface]) ∧ Below w.heap.size w w' := by
  refine (between_any ⟨#[]⟩ ⟨#[]⟩ 1 w (by unfold maxLen; decide) (by unfold maxLen; decide)).mono ?_
  rintro e w' ⟨rfl, hb⟩
  have e0 : (⟨#[]⟩ : ByteArray).toList = [] := ByteArray.toList_mk []
  obtain ⟨h1, h2, _⟩ := Pm.first_bet
  exact ⟨by rw [e0, h1, h2]; rfl, hb⟩

theorem check_first (w : World) : Calls Try.prog 7 #[.string ⟨#[104, 98]⟩] w fun e w' => e = .returned .nilIface ∧ w' = w :=
  check_ok ⟨#[104, 98]⟩ w (by unfold maxLen; decide) (by
    have e0 : (⟨#[104, 98]⟩ : ByteArray).toList = [104, 98] := ByteArray.toList_mk [104, 98]
    rw [e0]; exact Pm.first_bet.2.2)

theorem between_no (a b : ByteArray) (n : Int) (w : World) (ha : a.size ≤ maxLen) (hb : b.size ≤ maxLen) (h : Pm.betErr a.toList b.toList n ≠ 0) :
    Calls Try.prog 6 #[.string a, .string b, .int .i64 n] w fun e w' => e = .returned (.tuple #[S (Pm.betText a.toList b.toList n), .iface 23 (.int .i64 (Pm.betErr a.toList b.toList n))]) ∧ Below w.heap.size w w' := by
  refine (between_any a b n w ha hb).mono ?_
  rintro e w' ⟨rfl, hb⟩
  exact ⟨by rw [errV, if_neg h], hb⟩
theorem between_yes (a b : ByteArray) (n : Int) (w : World) (ha : a.size ≤ maxLen) (hb : b.size ≤ maxLen) (h : Pm.betErr a.toList b.toList n = 0) (p : ByteArray) (hp : p = ⟨(Pm.betText a.toList b.toList n).toArray⟩) :
    Calls Try.prog 6 #[.string a, .string b, .int .i64 n] w fun e w' => e = .returned (.tuple #[.string p, .nilIface]) ∧ Below w.heap.size w w' := by
  refine (between_any a b n w ha hb).mono ?_
  rintro e w' ⟨rfl, hb⟩
  exact ⟨by rw [errV, if_pos h, hp]; rfl, hb⟩
theorem room_yes (a b : ByteArray) (w : World) (ha : a.size ≤ maxLen) (hb : b.size ≤ maxLen) (h : Pm.roomErr a.toList b.toList = 0) (n : Int) (hn : Pm.roomLen a.toList b.toList = n) :
    Calls Try.prog 9 #[.string a, .string b] w fun e w' => e = .returned (.tuple #[.int .i64 n, .nilIface]) ∧ Below w.heap.size w w' := by
  refine (room_any a b w ha hb).mono ?_
  rintro e w' ⟨rfl, hb⟩
  exact ⟨by rw [errV, if_pos h, hn], hb⟩
theorem who_yes (s : ByteArray) (w : World) (hs : s.size ≤ maxLen) (h : Pm.chk s.toList = 0) (n : Int) (hn : Pm.whoOf s.toList = n) :
    Calls Try.prog 8 #[.string s] w fun e w' => e = .returned (.tuple #[.int .i64 n, .nilIface]) ∧ w' = w := by
  refine (who_any s w hs).mono ?_
  rintro e w' ⟨rfl, hw⟩
  exact ⟨by rw [Pm.whoR, if_pos h, errV, if_pos h, hn], hw⟩

theorem bel {w w1 w2 : World} (h1 : Below w.heap.size w w1) (h2 : Below w1.heap.size w1 w2) : Below w.heap.size w w2 :=
  h1.trans (h2.mono h1.size)

set_option maxHeartbeats 1000000 in
set_option maxRecDepth 100000 in
theorem walk (a b : ByteArray) (n o : Int) (ha : a.size ≤ maxLen) (hb : b.size ≤ maxLen) (w : World) :
    Calls Try.prog 4 #[.string a, .string b, .int .i64 n, .int .i64 o] w fun e w' => e = .returned (.bool true) ∧ Below w.heap.size w w' := by
  by_cases h : Pm.betErr a.toList b.toList n = 0
  · obtain ⟨t, m, ht, hr, hrl, hmade, hother⟩ := Pm.made_of h
    obtain ⟨p, hp⟩ : ∃ p : ByteArray, p = ⟨(Pm.betText a.toList b.toList n).toArray⟩ := ⟨_, rfl⟩
    have hpl : p.toList = t ++ [UInt8.ofNat (97 + n.toNat)] := by rw [hp, ByteArray.toList_mk, ht]
    have hps : p.size = m + 1 := by rw [← len_eq, hpl]; simp [hmade.lens]
    have hm := hmade.m11
    have hpm : p.size ≤ maxLen := by unfold maxLen; omega
    have hchk : Pm.chk p.toList = 0 := by rw [hpl]; exact Pm.chk_made hmade
    have hwho : Pm.whoOf p.toList = n := by rw [hpl]; exact Pm.whoOf_made t n hmade.who1 hmade.who8
    have habove : (Op.bytesLess p.toList a.toList || p.toList == a.toList) = false := by rw [hpl]; exact Pm.above_made hmade _
    have hroom : Pm.roomLen a.toList b.toList = (p.size : Int) := by rw [hrl, hps]; omega
    have HB : Hid (b.toList.isEmpty = false → Op.bytesLess p.toList b.toList = true) := by intro he; rw [hpl]; exact Pm.below_made hmade _ he
    have H : Hid (Pm.betErr a.toList b.toList n = 0) := h
    have HP : Hid (p = ⟨(Pm.betText a.toList b.toList n).toArray⟩) := hp
    have HC : Hid (Pm.chk p.toList = 0) := hchk
    have HW : Hid (Pm.whoOf p.toList = n) := hwho
    have HR : Hid (Pm.roomLen a.toList b.toList = (p.size : Int)) := hroom
    have HR0 : Hid (Pm.roomErr a.toList b.toList = 0) := hr
    have HPL : Hid (p.toList = t ++ [UInt8.ofNat (97 + n.toNat)]) := hpl
    have hn1 := hmade.who1
    have hn8 := hmade.who8
    have HO : Hid (∀ o, Pm.betErr a.toList b.toList o = 0 → Pm.betText a.toList b.toList o = t ++ [UInt8.ofNat (97 + o.toNat)] ∧ 1 ≤ o ∧ o ≤ 8) := hother
    simp only [Bool.or_eq_false_iff] at habove
    obtain ⟨hab1, hab2⟩ := habove
    clear h hp hpl hchk hwho hroom hr hrl hother hmade ht hps
    by_cases ho : Pm.betErr a.toList b.toList o = 0
    · have HE : Hid (Pm.betErr a.toList b.toList o = 0) := ho
      obtain ⟨q, hq⟩ : ∃ q : ByteArray, q = ⟨(Pm.betText a.toList b.toList o).toArray⟩ := ⟨_, rfl⟩
      have HQ : Hid (q = ⟨(Pm.betText a.toList b.toList o).toArray⟩) := hq
      have HQP : Hid ((q.toList == p.toList) = (o == n)) := by
        obtain ⟨h1, h2, h3⟩ := HO.out o ho
        unfold Hid
        rw [hq, ByteArray.toList_mk, h1, HPL.out]
        exact Pm.same_made t o n hn1 hn8 h2 h3
      clear ho hq HO
      cases heb : b.toList.isEmpty
      · have hbb := HB.out heb
        go_enter Try.func4, Try.ntmps4
        go_wp2_with fail
        refine (first_any _).mono ?_
        rintro e w1 ⟨rfl, hb1⟩
        go_wp2_with fail
        refine (check_first _).mono ?_
        rintro e w1' ⟨rfl, hw⟩
        have hw2 := hw.symm; subst hw2; clear hw
        go_wp2_with fail
        refine (between_yes a b n _ ha hb H.out p HP.out).mono ?_
        rintro e w2 ⟨rfl, hb2⟩
        go_wp2_with fail
        refine (who_yes p _ hpm HC.out n HW.out).mono ?_
        rintro e w2' ⟨rfl, hw⟩
        have hw2 := hw.symm; subst hw2; clear hw
        go_wp2_with fail
        refine (room_yes a b _ ha hb HR0.out _ HR.out).mono ?_
        rintro e w3 ⟨rfl, hb3⟩
        go_wp2_with fail
        refine (check_ok p _ hpm HC.out).mono ?_
        rintro e w3' ⟨rfl, hw⟩
        have hw2 := hw.symm; subst hw2; clear hw
        go_wp2_with fail
        refine (between_yes a b o _ ha hb HE.out q HQ.out).mono ?_
        rintro e w4 ⟨rfl, hb4⟩
        go_wp2_with fail
        go_ret
        exact ⟨ret_bool (by rw [HQP.out]; simp), bel (bel (bel hb1 hb2) hb3) hb4⟩
      · clear HB
        go_enter Try.func4, Try.ntmps4
        go_wp2_with fail
        refine (first_any _).mono ?_
        rintro e w1 ⟨rfl, hb1⟩
        go_wp2_with fail
        refine (check_first _).mono ?_
        rintro e w1' ⟨rfl, hw⟩
        have hw2 := hw.symm; subst hw2; clear hw
        go_wp2_with fail
        refine (between_yes a b n _ ha hb H.out p HP.out).mono ?_
        rintro e w2 ⟨rfl, hb2⟩
        go_wp2_with fail
        refine (who_yes p _ hpm HC.out n HW.out).mono ?_
        rintro e w2' ⟨rfl, hw⟩
        have hw2 := hw.symm; subst hw2; clear hw
        go_wp2_with fail
        refine (room_yes a b _ ha hb HR0.out _ HR.out).mono ?_
        rintro e w3 ⟨rfl, hb3⟩
        go_wp2_with fail
        refine (check_ok p _ hpm HC.out).mono ?_
        rintro e w3' ⟨rfl, hw⟩
        have hw2 := hw.symm; subst hw2; clear hw
        go_wp2_with fail
        refine (between_yes a b o _ ha hb HE.out q HQ.out).mono ?_
        rintro e w4 ⟨rfl, hb4⟩
        go_wp2_with fail
        go_ret
        exact ⟨ret_bool (by rw [HQP.out]; simp), bel (bel (bel hb1 hb2) hb3) hb4⟩
    · have HE : Hid (Pm.betErr a.toList b.toList o ≠ 0) := ho
      clear ho HO
      cases heb : b.toList.isEmpty
      · have hbb := HB.out heb
        go_enter Try.func4, Try.ntmps4
        go_wp2_with fail
        refine (first_any _).mono ?_
        rintro e w1 ⟨rfl, hb1⟩
        go_wp2_with fail
        refine (check_first _).mono ?_
        rintro e w1' ⟨rfl, hw⟩
        have hw2 := hw.symm; subst hw2; clear hw
        go_wp2_with fail
        refine (between_yes a b n _ ha hb H.out p HP.out).mono ?_
        rintro e w2 ⟨rfl, hb2⟩
        go_wp2_with fail
        refine (who_yes p _ hpm HC.out n HW.out).mono ?_
        rintro e w2' ⟨rfl, hw⟩
        have hw2 := hw.symm; subst hw2; clear hw
        go_wp2_with fail
        refine (room_yes a b _ ha hb HR0.out _ HR.out).mono ?_
        rintro e w3 ⟨rfl, hb3⟩
        go_wp2_with fail
        refine (check_ok p _ hpm HC.out).mono ?_
        rintro e w3' ⟨rfl, hw⟩
        have hw2 := hw.symm; subst hw2; clear hw
        go_wp2_with fail
        refine (between_no a b o _ ha hb HE.out).mono ?_
        rintro e w4 ⟨rfl, hb4⟩
        go_wp2_with fail
        go_ret
        exact ⟨rfl, bel (bel (bel hb1 hb2) hb3) hb4⟩
      · clear HB
        go_enter Try.func4, Try.ntmps4
        go_wp2_with fail
        refine (first_any _).mono ?_
        rintro e w1 ⟨rfl, hb1⟩
        go_wp2_with fail
        refine (check_first _).mono ?_
        rintro e w1' ⟨rfl, hw⟩
        have hw2 := hw.symm; subst hw2; clear hw
        go_wp2_with fail
        refine (between_yes a b n _ ha hb H.out p HP.out).mono ?_
        rintro e w2 ⟨rfl, hb2⟩
        go_wp2_with fail
        refine (who_yes p _ hpm HC.out n HW.out).mono ?_
        rintro e w2' ⟨rfl, hw⟩
        have hw2 := hw.symm; subst hw2; clear hw
        go_wp2_with fail
        refine (room_yes a b _ ha hb HR0.out _ HR.out).mono ?_
        rintro e w3 ⟨rfl, hb3⟩
        go_wp2_with fail
        refine (check_ok p _ hpm HC.out).mono ?_
        rintro e w3' ⟨rfl, hw⟩
        have hw2 := hw.symm; subst hw2; clear hw
        go_wp2_with fail
        refine (between_no a b o _ ha hb HE.out).mono ?_
        rintro e w4 ⟨rfl, hb4⟩
        go_wp2_with fail
        go_ret
        exact ⟨rfl, bel (bel (bel hb1 hb2) hb3) hb4⟩
  · have H : Hid (Pm.betErr a.toList b.toList n ≠ 0) := h
    clear h
    go_enter Try.func4, Try.ntmps4
    go_wp2_with fail
    refine (first_any _).mono ?_
    rintro e w1 ⟨rfl, hb1⟩
    go_wp2_with fail
    refine (check_first _).mono ?_
    rintro e w1' ⟨rfl, hw⟩
    have hw2 := hw.symm; subst hw2; clear hw
    go_wp2_with fail
    refine (between_no a b n _ ha hb H.out).mono ?_
    rintro e w2 ⟨rfl, hb2⟩
    go_wp2_with fail
    go_ret
    exact ⟨rfl, bel hb1 hb2⟩

set_option maxRecDepth 100000 in
theorem lifted (os : Os) (started : os.Started) (H : Type) (enc : TypeId × Value → H) :
    ReturnsInHanded {} Try.checked os 4 .any (Rows.placeBetweenSpec.pre6 enc Try.prog Try.f4 Rows.placeBetweenRow.domain false) (Rows.placeBetweenSpec.post enc Try.prog Try.f4 false true false false) := by
  refine returnsInHanded_of_change (C := Try.checked) own started (by kernel_rfl) Try.func4
    (ChangeSpec.witness6 (enc := enc) (C := Try.checked) false ⟨#[], #[.string ByteArray.empty, .string ByteArray.empty, .int .i64 0, .int .i64 0], []⟩ 8 (by kernel_rfl) (by kernel_rfl) (by kernel_rfl) (by kernel_rfl)) ?_
  intro W base args ds gs before hval0 hW hcnd _
  have hval : ∀ (j : Nat) t v, Try.f4.params[j]? = some t → args[j]? = some v → Value.okWide Try.prog W .any base t v := hval0
  have hW' := hW
  obtain ⟨p, q, hA0, hV, rfl, hfz, hnd⟩ := hW
  have hA : DataW.TrodAll enc Try.prog W 0 (fun _ => true) true Try.f4.params.toList args.toList ds p := hA0
  rw [Try.params4] at hA hval
  obtain ⟨v0, vs0, d0, ds0, p0, q0, hargs, rfl, rfl, h0, r0⟩ := trodAll_cons hA
  obtain ⟨v1, vs1, d1, ds1, p1, q1, rfl, rfl, rfl, h1, r1⟩ := trodAll_cons r0
  obtain ⟨v2, vs2, d2, ds2, p2, q2, rfl, rfl, rfl, h2, r2⟩ := trodAll_cons r1
  obtain ⟨v3, vs3, d3, ds3, p3, q3, rfl, rfl, rfl, h3, r3⟩ := trodAll_cons r2
  obtain ⟨rfl, rfl, rfl⟩ := trodAll_nil r3
  obtain rfl : args = #[v0, v1, v2, v3] := by cases args; simp_all
  obtain ⟨rfl, rfl⟩ := trodVars_none hV
  obtain ⟨a0, rfl, rfl, rfl, w0⟩ := open_string Try.underlying9 (hval 0 9 v0 rfl rfl) h0
  obtain ⟨a1, rfl, rfl, rfl, w1⟩ := open_string Try.underlying9 (hval 1 9 v1 rfl rfl) h1
  obtain ⟨a2, rfl, rfl, rfl, w2⟩ := open_int Try.underlying3 (hval 2 3 v2 rfl rfl) h2
  obtain ⟨a3, rfl, rfl, rfl, w3⟩ := open_int Try.underlying3 (hval 3 3 v3 rfl rfl) h3
  clear hA0 hval0
  simp only [List.append_nil] at hW'
  refine (walk a0 a1 a2 a3 w0 w1 W).mono fun e W' ⟨he, bel⟩ => ?_
  subst he
  exact ⟨_, rfl, _, _, _, [], [], [], hW', trodAll_mk1 (shut_bool Try.underlying4 _), (trodAll_cons_mk (shut_string Try.underlying9 w0) (trodAll_cons_mk (shut_string Try.underlying9 w1) (trodAll_cons_mk (shut_int Try.underlying3 w2) (trodAll_cons_mk (shut_int Try.underlying3 w3) trodAll_mk0)))), rfl, bel.frame _, fun h => by cases h⟩

theorem over : Rows.placeBetweenRow.holds Try.pinned (OpenSpec.ofChange Rows.placeBetweenSpec) :=
  OpenClaim.holds_of_wide 4 Try.f4 rfl rfl rfl rfl rfl rfl rfl ⟨rfl, rfl, rfl, rfl, rfl⟩ rfl rfl rfl rfl rfl (by kernel_rfl) Try.func4 (by kernel_rfl)
    (of_decide_eq_true (by kernel_rfl)) (by unfold Func.isWrapper; first | (rw [if_pos (by decide +kernel)]; kernel_rfl) | (rw [if_neg (by decide +kernel)]; exact ⟨rfl, rfl⟩))
    (fun os started H enc _ => lifted os started H enc)

end PlaceBetweenOwn

theorem placeBetween_holds : Rows.PlaceBetweenSaid := PlaceBetweenOwn.over
#print axioms placeBetween_holds
end Go.Proofs.Ytekcjhembcdgfaa
