/- DotSteps: for every two numbers the law returns true: a vector to which the dots of one author are added one by one knows just these. No condition; the card ties the one package-level variable of Go's library that it reads. -/
import Derived.Test.YtekcjhembcdgfabDoorDd
import Derived.Test.YtekcjhembcdgfabDoorZl
import Derived.Test.YtekcjhembcdgfabDoorZk
import Derived.Test.YtekcjhembcdgfabDoorCards
import Derived.Test.YtekcjhembcdgfabDoorTie
import Derived.SevenTiedAt
namespace Go.Proofs.YtekcjhembcdgfabDoor
namespace DotStepsOwn
set_option linter.unusedVariables false
open Go.ChangeShapes Go.WideShapes Go.ChangeAt Go.RowKit Za Db Dc Dd Pt Pl

abbrev zeros : Obj := .cells #[.int .i64 0, .int .i64 0, .int .i64 0, .int .i64 0, .int .i64 0, .int .i64 0, .int .i64 0, .int .i64 0] 3
theorem zeros_in (w : World) : IntsIn (w.alloc zeros) (some ⟨w.heap.size, 0, none⟩) [0, 0, 0, 0, 0, 0, 0, 0] := by
  refine Or.inr ⟨w.heap.size, 0, rfl, fun j hj => ?_⟩
  rw [Nat.zero_add, World.cell?_alloc_new]
  have : j < 8 := hj
  match j, this with
  | 0, _ => rfl
  | 1, _ => rfl
  | 2, _ => rfl
  | 3, _ => rfl
  | 4, _ => rfl
  | 5, _ => rfl
  | 6, _ => rfl
  | 7, _ => rfl

theorem walk_out (who n : Int) (w : World) (hg : ET w) (h : who < 1 ∨ (1 ≤ who ∧ 8 < who) ∨ (1 ≤ who ∧ who ≤ 8 ∧ n < 0) ∨ (1 ≤ who ∧ who ≤ 8 ∧ 0 ≤ n ∧ 50 < n)) :
    Calls Tryd.prog 3 #[.int .i64 who, .int .i64 n] w fun e w' => e = .returned (.bool true) ∧ Below w.heap.size w w' := by
  have hb0 : Below w.heap.size w (w.alloc zeros) := (Below.refl _ w).alloc (Nat.le_refl _) _
  have C := has_any (some ⟨w.heap.size, 0, none⟩) 8 8 [0, 0, 0, 0, 0, 0, 0, 0] 0 0 _ rfl (zeros_in w)
  rw [show Dm.hasB [0, 0, 0, 0, 0, 0, 0, 0] 0 0 = false by decide, show Dm.withE [0, 0, 0, 0, 0, 0, 0, 0] 0 0 = 1 by decide, errV_ne (by decide)] at C
  have HG : Hid (ET w) := hg
  clear hg
  rcases h with h1 | ⟨h1, h2⟩ | ⟨h1, h2, h3⟩ | ⟨h1, h2, h3, h4⟩
  all_goals
    go_enter Tryd.func3, Tryd.ntmps3
    go_wp2_with fail
    refine C.mono ?_
    rintro e w1 ⟨rfl, hb1⟩
    have HG1 : Hid (ET w1) := ET.below HG.out (bel hb0 hb1)
    go_wp2_with fail
    refine (same_err 1 1 _ HG1.out).mono ?_
    rintro e w2 ⟨rfl, hb2⟩
    go_wp2_with fail
    go_ret
    exact ⟨rfl, bel (bel hb0 hb1) hb2⟩

/- the round's relation -/
def Rel (w : World) (who n : Int) (v i : Value) (wr : World) : Prop :=
  ∃ (k : Nat) (p : Option Addr) (c : Nat), (k : Int) ≤ n ∧ i = .int .i64 ((k : Int) + 1) ∧ v = .slice p 8 c ∧ IntsIn wr p (Dm.one who k) ∧ Below w.heap.size w wr

set_option maxHeartbeats 1000000 in
theorem walk_in (who n : Int) (w : World) (hg : ET w) (hw1 : 1 ≤ who) (hw8 : who ≤ 8) (h0 : 0 ≤ n) (h50 : n ≤ 50) :
    Calls Tryd.prog 3 #[.int .i64 who, .int .i64 n] w fun e w' => e = .returned (.bool true) ∧ Below w.heap.size w w' := by
  have hb0 : Below w.heap.size w (w.alloc zeros) := (Below.refl _ w).alloc (Nat.le_refl _) _
  have HG : Hid (ET w) := hg
  clear hg
  go_enter Tryd.func3, Tryd.ntmps3
  go_wp2_with fail
  go_loopw [5, 8, 9, 10, 11, 12, 13] (fun v i _ _ _ _ _ wr => Rel w who n v i wr) (fun _ i _ _ _ _ _ _ => 60 - (intOf i).toNat)
  case atStart => exact ⟨0, some ⟨w.heap.size, 0, none⟩, 8, h0, rfl, rfl, by rw [show ((0 : Nat) : Int) = 0 from rfl, Dm.one_zero]; exact zeros_in w, hb0⟩
  case round =>
    obtain ⟨k, p, c, hk, rfl, rfl, hin, hbel⟩ := hrel
    have HIN : Hid (IntsIn wr p (Dm.one who k)) := hin
    have HBE : Hid (Below w.heap.size w wr) := hbel
    have hlen : (Dm.one who k).length = 8 := by simp [Dm.one]
    have HLN : Hid ((Dm.one who k).length = 8) := hlen
    clear hin hbel hlen
    by_cases hlt : (k : Int) < n
    · have hlt2 : (k : Int) + 1 ≤ n := by omega
      have HA : Hid (Dm.addE (Dm.one who k) who ((k : Int) + 1) = 0) := (Dm.one_add hw1 hw8 (by omega) (by omega)).1
      have HL : Hid (Dm.addE (Dm.one who k) who ((k : Int) + 1 + 1) = 6) := by
        have := Dm.one_late (who := who) (k := k) hw1 hw8 (by omega) (by omega)
        unfold Hid; rw [show (k : Int) + 1 + 1 = k + 2 by omega]; exact this
      go_wp2_with fail
      refine (add_yes p 8 c _ who _ _ HLN.out HIN.out HA.out).mono ?_
      rintro e w2 ⟨g, cap, rfl, hin2, hb2⟩
      have HIN2 : Hid (IntsIn w2 (some ⟨g, 0, none⟩) (Dm.one who ((k + 1 : Nat) : Int))) := by
        rw [Dm.one_set] at hin2
        unfold Hid; rw [show ((k + 1 : Nat) : Int) = (k : Int) + 1 by omega]; exact hin2
      have HB2 : Hid (Below w.heap.size w w2) := bel HBE.out hb2
      have HIN1 : Hid (IntsIn w2 p (Dm.one who k)) := HIN.out.below hb2
      clear hin2 hb2
      go_wp2_with fail
      refine (add_no p 8 c _ who _ _ HLN.out HIN1.out (by rw [HL.out]; decide) 6 HL.out).mono ?_
      rintro e w3 ⟨rfl, hb3⟩
      have HB3 : Hid (Below w.heap.size w w3) := bel HB2.out hb3
      have HG3 : Hid (ET w3) := ET.below HG.out HB3.out
      have HIN3 : Hid (IntsIn w3 (some ⟨g, 0, none⟩) (Dm.one who ((k + 1 : Nat) : Int))) := HIN2.out.below hb3
      clear hb3
      go_wp2_with fail
      refine (same_err 6 6 _ HG3.out).mono ?_
      rintro e w4 ⟨rfl, hb4⟩
      have HB4 : Hid (Below w.heap.size w w4) := bel HB3.out hb4
      have HIN4 : Hid (IntsIn w4 (some ⟨g, 0, none⟩) (Dm.one who ((k + 1 : Nat) : Int))) := HIN3.out.below hb4
      clear hb4
      go_wp2_with fail
      go_roundw
      case rel => exact ⟨k + 1, some ⟨g, 0, none⟩, cap, by omega, by simp, rfl, HIN4.out, HB4.out⟩
      case measure => simp [intOf]; omega
    · obtain rfl : n = k := by omega
      have HH1 : Hid (Dm.hasB (Dm.one who k) who ((k : Int) + 1) = false) := by
        unfold Hid; rw [Dm.one_has hw1 hw8 (by omega) (by omega) (by omega) (by omega)]; simp; omega
      have HW1 : Hid (errV (Dm.withE (Dm.one who k) who ((k : Int) + 1)) = .nilIface) := by
        unfold Hid; rw [Dm.one_with hw1 hw8 (by omega) (by omega) (by omega) (by omega)]; rfl
      have C1 := has_any p 8 c _ who ((k : Int) + 1) _ HLN.out HIN.out
      rw [HH1.out, HW1.out] at C1
      cases hk0 : ((k : Int) == 0)
      case true =>
        go_wp2_with fail
        refine C1.mono ?_
        rintro e w2 ⟨rfl, hb2⟩
        have HB2 : Hid (Below w.heap.size w w2) := bel HBE.out hb2
        clear hb2
        go_wp2_with fail
        go_ret
        exact ⟨rfl, HB2.out⟩
      case false =>
        have hk1 : 1 ≤ (k : Int) := by have : ¬ (k : Int) = 0 := by simpa using hk0
                                       omega
        go_wp2_with fail
        refine C1.mono ?_
        rintro e w2 ⟨rfl, hb2⟩
        have HB2 : Hid (Below w.heap.size w w2) := bel HBE.out hb2
        have HIN2 : Hid (IntsIn w2 p (Dm.one who k)) := HIN.out.below hb2
        have C2 := has_any p 8 c _ who (k : Int) _ HLN.out HIN2.out
        rw [Dm.one_has hw1 hw8 (by omega) (by omega) (by omega) (by omega), Dm.one_with hw1 hw8 (by omega) (by omega) (by omega) (by omega), errV_zero, decide_eq_true (Int.le_refl _)] at C2
        clear hb2
        go_wp2_with fail
        refine C2.mono ?_
        rintro e w3 ⟨rfl, hb3⟩
        have HB3 : Hid (Below w.heap.size w w3) := bel HB2.out hb3
        clear hb3 C2 C1
        go_wp2_with fail
        go_ret
        exact ⟨rfl, HB3.out⟩

theorem walk (who n : Int) (w : World) (hg : ET w) :
    Calls Tryd.prog 3 #[.int .i64 who, .int .i64 n] w fun e w' => e = .returned (.bool true) ∧ Below w.heap.size w w' := by
  by_cases h1 : who < 1
  · exact walk_out who n w hg (Or.inl h1)
  by_cases h2 : 8 < who
  · exact walk_out who n w hg (Or.inr (Or.inl ⟨by omega, h2⟩))
  by_cases h3 : n < 0
  · exact walk_out who n w hg (Or.inr (Or.inr (Or.inl ⟨by omega, by omega, h3⟩)))
  by_cases h4 : 50 < n
  · exact walk_out who n w hg (Or.inr (Or.inr (Or.inr ⟨by omega, by omega, by omega, h4⟩)))
  exact walk_in who n w hg (by omega) (by omega) (by omega) (by omega)

set_option maxRecDepth 100000 in
theorem lifted (os : Os) (started : os.Started) (H : Type) (enc : TypeId × Value → H) :
    ReturnsInHanded {} Tryd.checked os 3 .any (fun w args => (Rows.dotStepsSpec.pre enc Tryd.prog Tryd.f3 [] false w args ∧ laidMetH Tryd.prog Pk.laid w) ∧ sizedMet enc Tryd.prog Tryd.f3 (OpenSpec.ofChange Rows.dotStepsSpec) false w args)
      (Rows.dotStepsSpec.post enc Tryd.prog Tryd.f3 false true false false) := by
  refine returnsInHanded_of_change_and (C := Tryd.checked) (X := fun w _ => laidMetH Tryd.prog Pk.laid w) (fun _ _ _ hh h => h.of_heap hh) Pk.own started (by kernel_rfl) Tryd.func3
    (ChangeSpec.witness_at (enc := enc) (C := Tryd.checked) (os := os) (X := fun w _ => laidMetH Tryd.prog Pk.laid w) false { World.holding Tryd.prog os ⟨#[], #[], []⟩ with heap := (World.holding Tryd.prog os ⟨#[], #[], []⟩).heap.modify 0 Pk.put } #[.int .i64 0, .int .i64 0] 8 rfl (by kernel_rfl) (by kernel_rfl) (by kernel_rfl) (by kernel_rfl) (by kernel_rfl) (Pk.laidWorld_met os _)) ?_
  intro W base args ds gs before hval0 hW _ _ hL _
  have hval : ∀ (j : Nat) t v, Tryd.f3.params[j]? = some t → args[j]? = some v → Value.okWide Tryd.prog W .any base t v := hval0
  have hW' := hW
  obtain ⟨p, q, hA0, hV0, rfl, hfz, hnd⟩ := hW
  have hA : DataW.TrodAll enc Tryd.prog W 0 (fun _ => true) true Tryd.f3.params.toList args.toList ds p := hA0
  have hV : DataW.TrodVars enc Tryd.prog W (fun _ => true) [] gs q := hV0
  rw [Tryd.params3] at hA hval
  obtain ⟨v0, vs0, d0, ds0, p0, q0, hargs, rfl, rfl, h0, r0⟩ := trodAll_cons hA
  obtain ⟨v1, vs1, d1, ds1, p1, q1, rfl, rfl, rfl, h1, r1⟩ := trodAll_cons r0
  obtain ⟨rfl, rfl, rfl⟩ := trodAll_nil r1
  obtain rfl : args = #[v0, v1] := by cases args; simp_all
  obtain ⟨a0, rfl, rfl, rfl, w0⟩ := open_int Tryd.underlying3 (hval 0 3 v0 rfl rfl) h0
  obtain ⟨a1, rfl, rfl, rfl, w1⟩ := open_int Tryd.underlying3 (hval 1 3 v1 rfl rfl) h1
  have hg := Pk.handle_of_laid hL
  obtain ⟨rfl, rfl⟩ : gs = [] ∧ q = [] := by
    cases gs with
    | nil => exact ⟨rfl, hV⟩
    | cons g r => exact absurd hV (by intro h; cases h)
  clear hA0 hval0
  simp only [List.append_nil] at hW'
  refine (walk a0 a1 W hg).mono fun e W' ⟨he, bel⟩ => ?_
  subst he
  exact ⟨_, rfl, _, _, _, [], [], [], hW', trodAll_mk1 (shut_bool Tryd.underlying4 _), (trodAll_cons_mk (shut_int Tryd.underlying3 w0) (trodAll_cons_mk (shut_int Tryd.underlying3 w1) trodAll_mk0)), rfl, bel.frame _, fun h => by cases h⟩

theorem over : Rows.DotStepsSaid :=
  OpenClaim.holds_of_wide 3 Tryd.f3 rfl rfl rfl rfl rfl rfl rfl ⟨rfl, rfl, rfl, rfl, rfl⟩ rfl rfl rfl rfl rfl (by kernel_rfl) Tryd.func3 (by kernel_rfl)
    (of_decide_eq_true (by kernel_rfl)) (by unfold Func.isWrapper; rw [if_neg (of_decide_eq_false (by kernel_rfl))]; exact ⟨rfl, rfl⟩)
    (fun os started H enc _ => lifted os started H enc)

end DotStepsOwn

theorem dotSteps_holds : Rows.DotStepsCardSaid :=
  Claim7.holds_tied_plain_at .later [] [.handle] true Rows.dotStepsCard.stood.harness true
    DotStepsOwn.over (fun _ h => by cases h) (by kernel_rfl) (fun _ h => by cases h) dotSteps_row_tie rfl ⟨rfl, rfl⟩ (by kernel_rfl) rfl
    (fun f fn hf hfn => by
      obtain rfl : f = 3 := Option.some.inj ((show Tryd.prog.funcNamed Rows.dotStepsRow.func = some 3 by kernel_rfl).symm.trans hf) |>.symm
      obtain rfl : fn = Tryd.f3 := (Option.some.inj (Tryd.func3.symm.trans hfn)).symm
      exact ⟨by kernel_rfl, fun j t ht => by
        rw [Tryd.params3] at ht
        obtain rfl : t = 3 := by
          rcases j with _ | _ | j
          · simpa using ht.symm
          · simpa using ht.symm
          · simp at ht
        exact (show Tryd.prog.wantsStandIn 3 = false by kernel_rfl)⟩)
    (by kernel_rfl)
#print axioms dotSteps_holds
end Go.Proofs.YtekcjhembcdgfabDoor
