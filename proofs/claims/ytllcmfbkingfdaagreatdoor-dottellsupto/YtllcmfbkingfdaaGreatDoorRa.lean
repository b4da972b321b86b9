/- What the reference says of a dot, a vector, a number's digits, and a text that is a number. -/
import Derived.Test.YtllcmfbkingfdaaGreatDoorDc
import Derived.Test.YtllcmfbkingfdaaGreatDoorDj
namespace Go.Proofs.YtllcmfbkingfdaaGreatDoor
namespace Ra
set_option linter.unusedVariables false
open Go.ChangeShapes Go.WideShapes Go.ChangeAt Go.RowKit Za

theorem rdot_any (who m : Int) (w : World) :
    Calls Tryz.prog 4 #[.agg #[.int .i64 who, .int .i64 m]] w fun e w' => e = .returned (.int .i64 (Dm.dotE who m)) ∧ Below w.heap.size w w' := by
  go_enter Tryz.func4, Tryz.ntmps4
  go_wp2
  all_goals
    go_ret
    refine ⟨?_, (Below.refl _ w).alloc (Nat.le_refl _) _⟩
    unfold Dm.dotE
    first
      | (rw [if_pos (by omega)]; rfl)
      | (rw [if_neg (by omega)]; rfl)

theorem rvec_any (p : Option Addr) (n c : Nat) (l : List Int) (w : World) (hl : l.length = n) (h : IntsIn w p l) :
    Calls Tryz.prog 7 #[.slice p n c] w fun e w' => e = .returned (.int .i64 (Dm.vecE l)) ∧ w' = w := by
  by_cases h8 : n = 8
  · subst h8
    obtain ⟨b, o, rfl, hc⟩ := h.some (by rintro rfl; simp at hl)
    have HC : Hid (∀ j, j < 8 → w.cell? ⟨b, o + j, none⟩ = some (.int .i64 (l.getD j 0))) := fun j hj => hc j (by omega)
    have HL : Hid (l.length = 8) := hl
    clear hc h hl
    go_enter Tryz.func7, Tryz.ntmps7
    go_wp2
    go_loop [3] (fun v => ∃ k : Nat, k ≤ 8 ∧ v = .int .i64 k ∧ Hid (∀ j, j < k → Dm.bad (l.getD j 0) = false)) (fun v => 8 - (intOf v).toNat)
    case atStart => exact ⟨0, by omega, rfl, fun j hj => absurd hj (by omega)⟩
    case round =>
      obtain ⟨k, hk, rfl, HA⟩ := hrel
      by_cases hlt : k < 8
      · have hltz : (k : Int) < 8 := by omega
        have hcell := HC.out k hlt
        obtain ⟨x, hx⟩ : ∃ x, x = l.getD k 0 := ⟨_, rfl⟩
        have HX : Hid (x = l.getD k 0) := hx
        rw [← hx] at hcell
        clear hx
        have HBAD : Hid (Dm.bad x = true → Dm.vecE l = 1) := by
          intro hb
          unfold Dm.vecE
          rw [if_pos HL.out, if_pos]
          refine List.any_eq_true.2 ⟨x, ?_, hb⟩
          rw [HX.out, List.getD_eq_getElem?_getD, List.getElem?_eq_getElem (by rw [HL.out]; exact hlt)]
          exact List.getElem_mem _
        have HNX : Hid (Dm.bad x = false → ∀ j, j < k + 1 → Dm.bad (l.getD j 0) = false) := by
          intro hb j hj
          rcases Nat.lt_succ_iff_lt_or_eq.1 hj with h | rfl
          · exact HA.out j h
          · rw [← HX.out]; exact hb
        by_cases h0 : x < 0
        · have HE : Hid (Dm.vecE l = 1) := HBAD.out (by simp [Dm.bad, h0])
          go_wp2
          go_ret
          exact ⟨by rw [HE.out]; rfl, rfl⟩
        · by_cases h9 : 9999 < x
          · have HE : Hid (Dm.vecE l = 1) := HBAD.out (by simp [Dm.bad, h9])
            go_wp2
            go_ret
            exact ⟨by rw [HE.out]; rfl, rfl⟩
          · have HE : Hid (∀ j, j < k + 1 → Dm.bad (l.getD j 0) = false) := HNX.out (by simp [Dm.bad]; omega)
            go_wp2
            go_round
            case rel => exact ⟨k + 1, by omega, by go_num, HE⟩
            case measure => simp [intOf]; omega
      · obtain rfl : k = 8 := by omega
        go_wp2
        go_ret
        refine ⟨?_, rfl⟩
        refine congrArg (fun z => Ending.returned (.int .i64 z)) (Eq.symm ?_)
        refine Dm.vecE_zero.2 ⟨HL.out, fun y hy => ?_⟩
        obtain ⟨i, hi, e⟩ := List.getElem_of_mem hy
        have := HA.out i (by rw [← HL.out]; exact hi)
        rw [List.getD_eq_getElem?_getD, List.getElem?_eq_getElem hi] at this
        simp only [Option.getD_some] at this
        rw [e] at this
        simp [Dm.bad] at this
        omega
  · have HE : Hid (Dm.vecE l = 3) := by unfold Hid Dm.vecE; rw [if_neg (by omega)]
    have h8' : ((n : Int) == 8) = false := by simp; omega
    clear h hl h8
    go_enter Tryz.func7, Tryz.ntmps7
    go_wp2
    go_ret
    exact ⟨by rw [HE.out]; rfl, rfl⟩

def ten : ByteArray := ⟨#[48, 49, 50, 51, 52, 53, 54, 55, 56, 57]⟩
theorem ten_piece (i : Nat) (h : i < 10) : ten.extract i (i + 1) = ⟨#[UInt8.ofNat (48 + i)]⟩ := by
  match i, h with
  | 0, _ => decide
  | 1, _ => decide
  | 2, _ => decide
  | 3, _ => decide
  | 4, _ => decide
  | 5, _ => decide
  | 6, _ => decide
  | 7, _ => decide
  | 8, _ => decide
  | 9, _ => decide

end Ra
end Go.Proofs.YtllcmfbkingfdaaGreatDoor
