/- Package diff: otherAhead. -/
import Derived.Test.YtmenknbgmgnfhaaDoorZf
namespace Go.Proofs.YtmenknbgmgnfhaaDoor
namespace Zg
set_option linter.unusedVariables false
set_option linter.unusedSimpArgs false
open Go.ChangeShapes Go.WideShapes Go.ChangeAt Go.RowKit Ka Kb Zb Zc Zd Ze Zf

set_option maxRecDepth 100000 in
set_option maxHeartbeats 2000000 in
theorem other_any (a b : ByteArray) (i j : Nat) (v : Value) (w : World) (ha : a.size ≤ 200) (hb : b.size ≤ 200) (hi : i ≤ a.size) (hj : j ≤ b.size) (h : Tab w v a.toList b.toList) :
    Calls Tryd.prog 14 #[.string a, .string b, .int .i64 i, .int .i64 j, v] w fun e w' => e = .returned (.tuple #[.int .i64 (other (a.toList.drop i) (b.toList.drop j)).1, .int .i64 (other (a.toList.drop i) (b.toList.drop j)).2]) ∧ Below w.heap.size w w' := by
  obtain ⟨g, r, rfl, h1, h2⟩ := h
  simp only [Kb.len_eq] at h1 h2 ⊢
  have H1 : Hid (∀ W, Below w.heap.size w W → ∀ k, k ≤ a.size → W.cell? ⟨g, k, none⟩ = some (.slice (some ⟨r k, 0, none⟩) (b.size + 1) (b.size + 1))) := fun W hb k hk => keep_cell hb (h1 k hk)
  have H2 : Hid (∀ W, Below w.heap.size w W → ∀ k l, k ≤ a.size → l ≤ b.size → W.cell? ⟨r k, l, none⟩ = some (.int .i64 (K (a.toList.drop k) (b.toList.drop l)))) := fun W hb k l hk hl => keep_cell hb (h2 k l hk hl)
  clear h1 h2
  obtain ⟨O, hO⟩ : ∃ O, O = other (a.toList.drop i) (b.toList.drop j) := ⟨_, rfl⟩
  rw [← hO]
  have HO := hO
  replace HO : Hid (O = other (a.toList.drop i) (b.toList.drop j)) := HO
  clear hO
  obtain ⟨O1, O2⟩ := O
  dsimp only
  go_enter Tryd.func14, Tryd.ntmps14
  go_wp2_with fail
  go_loopw [10, 11] (fun s t wr => ∃ k l : Nat, i + k ≤ a.size ∧ j + l ≤ b.size ∧ s = .int .i64 k ∧ t = .int .i64 l ∧ Hid (O1 = k + (other (a.toList.drop (i + k)) (b.toList.drop (j + l))).1 ∧ O2 = l + (other (a.toList.drop (i + k)) (b.toList.drop (j + l))).2) ∧ Hid (Below w.heap.size w wr)) (fun s t _ => (a.size - i - (intOf s).toNat) + (b.size - j - (intOf t).toNat))
  case atStart => exact ⟨0, 0, by omega, by omega, rfl, rfl, by have := HO.out; unfold Hid; rw [Nat.add_zero, Nat.add_zero, ← this]; simp, Below.refl _ _⟩
  case round =>
    obtain ⟨k, l, hk, hl, rfl, rfl, HP, HB⟩ := hrel
    by_cases g1 : i + k < a.size
    · have z1 : (i : Int) + (k : Int) < (a.size : Int) := by omega
      by_cases g2 : j + l < b.size
      · have z2 : (j : Int) + (l : Int) < (b.size : Int) := by omega
        have n1 : (0 : Int) ≤ (i : Int) + (k : Int) := by omega
        have n2 : (0 : Int) ≤ (j : Int) + (l : Int) := by omega
        have HKA : Hid (a.toList.drop (i + k) = a[i + k] :: a.toList.drop (i + k + 1)) := drop_at g1
        have HKB : Hid (b.toList.drop (j + l) = b[j + l] :: b.toList.drop (j + l + 1)) := drop_at g2
        go_wp2_with fail
        go_region
        generalize hwq : World.drew _ = w2
        have HB2 : Hid (Below w.heap.size w w2) := by rw [← hwq]; exact HB.out.drew
        clear hwq HB
        cases h3 : ((a[i + k].toNat : Int) == (b[j + l].toNat : Int))
        case true =>
          have HE : Hid (other (a.toList.drop (i + k)) (b.toList.drop (j + l)) = (0, 0)) := by
            rw [u8_eq, decide_eq_true_eq] at h3
            rw [Hid, HKA.out, HKB.out, h3, other_eq]
          go_wp2_with fail
          go_ret2
          have h9 := HP.out
          rw [HE.out] at h9
          exact ⟨by rw [h9.1, h9.2]; rfl, HB2.out⟩
        case false =>
          have c1 := H1.out w2 HB2.out (i + k + 1) (by omega)
          have c2 := H1.out w2 HB2.out (i + k) (by omega)
          have c3 := H2.out w2 HB2.out (i + k + 1) (j + l) (by omega) (by omega)
          have c4 := H2.out w2 HB2.out (i + k) (j + l + 1) (by omega) (by omega)
          obtain ⟨x, hx⟩ : ∃ x, x = K (a.toList.drop (i + k + 1)) (b.toList.drop (j + l)) := ⟨_, rfl⟩
          obtain ⟨y, hy⟩ : ∃ y, y = K (a.toList.drop (i + k)) (b.toList.drop (j + l + 1)) := ⟨_, rfl⟩
          rw [← hx] at c3
          rw [← hy] at c4
          have HX : Hid (x = K (a.toList.drop (i + k + 1)) (b.toList.drop (j + l))) := hx
          have HY : Hid (y = K (a.toList.drop (i + k)) (b.toList.drop (j + l + 1))) := hy
          clear hx hy
          have HNE : Hid (a[i + k] ≠ b[j + l]) := by
            rw [u8_eq, decide_eq_false_iff_not] at h3
            exact h3
          by_cases hxy : y ≤ x
          · have hxz : (y : Int) ≤ (x : Int) := by omega
            have HE : Hid (other (a.toList.drop (i + k)) (b.toList.drop (j + l)) = ((other (a.toList.drop (i + k + 1)) (b.toList.drop (j + l))).1 + 1, (other (a.toList.drop (i + k + 1)) (b.toList.drop (j + l))).2)) := by
              have h9 := hxy
              rw [HX.out, HY.out, HKA.out, HKB.out] at h9
              rw [Hid, HKA.out, HKB.out]
              exact other_l HNE.out h9
            go_wp2_with fail
            go_region
            generalize hwq : World.drew _ = w3
            have HB3 : Hid (Below w.heap.size w w3) := by rw [← hwq]; exact HB2.out.drew
            clear hwq
            go_wp2_with fail
            go_roundw
            case rel =>
              refine ⟨k + 1, l, by omega, by omega, by go_num, rfl, ?_, HB3⟩
              have h9 := HP.out
              rw [HE.out] at h9
              exact ⟨by rw [h9.1, ← Nat.add_assoc i k 1]; omega, by rw [h9.2, ← Nat.add_assoc i k 1]⟩
            case measure => simp [intOf]; omega
          · have hxz : ¬ (y : Int) ≤ (x : Int) := by omega
            have HE : Hid (other (a.toList.drop (i + k)) (b.toList.drop (j + l)) = ((other (a.toList.drop (i + k)) (b.toList.drop (j + l + 1))).1, (other (a.toList.drop (i + k)) (b.toList.drop (j + l + 1))).2 + 1)) := by
              have h9 := hxy
              rw [HX.out, HY.out, HKA.out, HKB.out] at h9
              rw [Hid, HKA.out, HKB.out]
              exact other_r HNE.out h9
            go_wp2_with fail
            go_region
            generalize hwq : World.drew _ = w3
            have HB3 : Hid (Below w.heap.size w w3) := by rw [← hwq]; exact HB2.out.drew
            clear hwq
            go_wp2_with fail
            go_roundw
            case rel =>
              refine ⟨k, l + 1, by omega, by omega, rfl, by go_num, ?_, HB3⟩
              have h9 := HP.out
              rw [HE.out] at h9
              exact ⟨by rw [h9.1, ← Nat.add_assoc j l 1], by rw [h9.2, ← Nat.add_assoc j l 1]; omega⟩
            case measure => simp [intOf]; omega
      · have z2 : ¬ (j : Int) + (l : Int) < (b.size : Int) := by omega
        have HE : Hid (O1 = a.size - i ∧ O2 = b.size - j) := by
          have h9 := HP.out
          rw [drop_end (s := b) (k := j + l) (by omega), other_nil, List.length_drop, Kb.len_eq] at h9
          unfold Hid; omega
        go_wp2_with fail
        go_ret2
        exact ⟨by rw [HE.out.1, HE.out.2, show ((a.size - i : Nat) : Int) = (a.size : Int) - (i : Int) by omega, show ((b.size - j : Nat) : Int) = (b.size : Int) - (j : Int) by omega]; rfl, HB.out⟩
    · have z1 : ¬ (i : Int) + (k : Int) < (a.size : Int) := by omega
      have HE : Hid (O1 = a.size - i ∧ O2 = b.size - j) := by
        have h9 := HP.out
        rw [drop_end (s := a) (k := i + k) (by omega), other_nil', List.length_drop, Kb.len_eq] at h9
        unfold Hid; omega
      go_wp2_with fail
      go_ret2
      exact ⟨by rw [HE.out.1, HE.out.2, show ((a.size - i : Nat) : Int) = (a.size : Int) - (i : Int) by omega, show ((b.size - j : Nat) : Int) = (b.size : Int) - (j : Int) by omega]; rfl, HB.out⟩

end Zg
end Go.Proofs.YtmenknbgmgnfhaaDoor
