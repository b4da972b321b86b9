/- What dot.Check and dot.Vector answer. -/
import Derived.Test.YtllcmfbkingfdaaGreatDoorZa
namespace Go.Proofs.YtllcmfbkingfdaaGreatDoor
namespace Db
set_option linter.unusedVariables false
open Go.ChangeShapes Go.WideShapes Go.ChangeAt Go.RowKit Za

theorem bad_any (n : Int) (w : World) : Calls Tryz.prog 20 #[.int .i64 n] w fun e w' => e = .returned (.bool (Dm.bad n)) ∧ w' = w := by
  go_enter Tryz.func20, Tryz.ntmps20
  go_wp2
  all_goals
    go_ret
    exact ⟨ret_bool (by simp [Dm.bad, *]), rfl⟩

theorem index_any (b o n c : Nat) (l : List Int) (w : World) (hl : l.length = n) (hn : n ≤ 9223372036854775807) (hc : ∀ j, j < l.length → w.cell? ⟨b, o + j, none⟩ = some (.int .i64 (l.getD j 0))) :
    Calls Tryz.prog 34 #[.slice (some ⟨b, o, none⟩) n c, .func (.func 20) #[] #[]] w fun e w' => (∃ r, e = .returned (.int .i64 r) ∧ decide (0 ≤ r) = l.any Dm.bad) ∧ w' = w := by
  have HC : Hid (∀ j, j < n → w.cell? ⟨b, o + j, none⟩ = some (.int .i64 (l.getD j 0))) := fun j hj => hc j (by omega)
  have HL : Hid (l.length = n) := hl
  clear hc hl
  go_enter Tryz.func34, Tryz.ntmps34
  go_wp2
  go_loop [5, 8] (fun _ v => ∃ k : Nat, k ≤ n ∧ v = .int .i64 k ∧ Hid (∀ j, j < k → Dm.bad (l.getD j 0) = false)) (fun _ v => n - (intOf v).toNat)
  case atStart => exact ⟨0, by omega, rfl, fun j hj => absurd hj (by omega)⟩
  case round =>
    obtain ⟨k, hk, rfl, HA⟩ := hrel
    by_cases hlt : k < n
    · have hltz : (k : Int) < n := by omega
      have hcell := HC.out k hlt
      obtain ⟨x, hx⟩ : ∃ x, x = l.getD k 0 := ⟨_, rfl⟩
      have HX : Hid (x = l.getD k 0) := hx
      rw [← hx] at hcell
      clear hx
      cases hbad : Dm.bad x
      · go_wp2_with (go_at_call 20; refine (bad_any _ _).mono ?_; rintro e w' ⟨rfl, hw⟩; have hw2 := hw.symm; subst hw2; clear hw)
        go_round
        case rel => exact ⟨k + 1, by omega, by simp, fun j hj => by
          rcases Nat.lt_succ_iff_lt_or_eq.1 hj with h | rfl
          · exact HA.out j h
          · rw [← HX.out]; exact hbad⟩
        case measure => simp [intOf]; omega
      · go_wp2_with (go_at_call 20; refine (bad_any _ _).mono ?_; rintro e w' ⟨rfl, hw⟩; have hw2 := hw.symm; subst hw2; clear hw)
        go_ret
        refine ⟨⟨_, rfl, ?_⟩, rfl⟩
        rw [decide_eq_true (by omega)]
        refine (List.any_eq_true.2 ⟨x, ?_, hbad⟩).symm
        rw [HX.out, List.getD_eq_getElem?_getD, List.getElem?_eq_getElem (by rw [HL.out]; exact hlt)]
        exact List.getElem_mem _
    · obtain rfl : k = n := by omega
      go_wp2
      go_ret
      refine ⟨⟨_, rfl, ?_⟩, rfl⟩
      cases ha : l.any Dm.bad with
      | false => rfl
      | true =>
        obtain ⟨x, hx, hb⟩ := List.any_eq_true.1 ha
        obtain ⟨i, hi, e⟩ := List.getElem_of_mem hx
        have := HA.out i (by rw [← HL.out]; exact hi)
        rw [List.getD_eq_getElem?_getD, List.getElem?_eq_getElem hi] at this
        simp only [Option.getD_some] at this
        rw [e, hb] at this
        exact absurd this (by decide)

theorem contains_any (b o n c : Nat) (l : List Int) (w : World) (hl : l.length = n) (hn : n ≤ 9223372036854775807) (hc : ∀ j, j < l.length → w.cell? ⟨b, o + j, none⟩ = some (.int .i64 (l.getD j 0))) :
    Calls Tryz.prog 19 #[.slice (some ⟨b, o, none⟩) n c, .func (.func 20) #[] #[]] w fun e w' => e = .returned (.bool (l.any Dm.bad)) ∧ w' = w := by
  have C := index_any b o n c l w hl hn hc
  clear hc hl
  go_enter Tryz.func19, Tryz.ntmps19
  go_wp2_with (go_at_call 34; refine C.mono ?_; rintro e w' ⟨⟨r, rfl, hr⟩, hw⟩; have hw2 := hw.symm; subst hw2; clear hw; have HR : Hid (decide (0 ≤ r) = l.any Dm.bad) := hr; clear hr)
  all_goals
    go_ret
    exact ⟨ret_bool HR.out, rfl⟩

theorem vector_any (p : Option Addr) (n c : Nat) (l : List Int) (w : World) (hl : l.length = n) (h : IntsIn w p l) :
    Calls Tryz.prog 8 #[.slice p n c] w fun e w' => e = .returned (errV (Dm.vecE l)) ∧ w' = w := by
  by_cases h8 : n = 8
  · subst h8
    obtain ⟨b, o, rfl, hc⟩ := h.some (by rintro rfl; simp at hl)
    have C := contains_any b o 8 c l w hl (by omega) hc
    have HL : Hid (l.length = 8) := hl
    clear hc h hl
    cases ha : l.any Dm.bad
    · rw [ha] at C
      have HA : Hid (l.any Dm.bad = false) := ha
      clear ha
      go_enter Tryz.func8, Tryz.ntmps8
      go_wp2_with (go_at_call 19; refine C.mono ?_; rintro e w' ⟨rfl, hw⟩; have hw2 := hw.symm; subst hw2; clear hw)
      go_ret
      exact ⟨by unfold Dm.vecE; rw [if_pos HL.out, HA.out]; rfl, rfl⟩
    · rw [ha] at C
      have HA : Hid (l.any Dm.bad = true) := ha
      clear ha
      go_enter Tryz.func8, Tryz.ntmps8
      go_wp2_with (go_at_call 19; refine C.mono ?_; rintro e w' ⟨rfl, hw⟩; have hw2 := hw.symm; subst hw2; clear hw)
      go_ret
      exact ⟨by unfold Dm.vecE; rw [if_pos HL.out, HA.out]; rfl, rfl⟩
  · have HE : Hid (errV (Dm.vecE l) = .iface 47 (.int .i64 3)) := by
      unfold Hid Dm.vecE; rw [if_neg (by omega)]; rfl
    have h8' : ((n : Int) == 8) = false := by simp; omega
    clear h hl h8
    go_enter Tryz.func8, Tryz.ntmps8
    go_wp2_with fail
    go_ret
    exact ⟨by rw [HE.out]; rfl, rfl⟩

end Db
end Go.Proofs.YtllcmfbkingfdaaGreatDoor
