/- What slices.Concat answers, of three rows of leafs. -/
import Derived.Test.YtaefoieoachdfaaLh
namespace Go.Proofs.Ytaefoieoachdfaa
namespace Li
set_option linter.unusedVariables false
open Go.ChangeShapes Go.WideShapes Go.ChangeAt Go.RowKit Bm Ka Kb La Lb Lc Ld Le Lf Lg Lh

theorem own_cat {w : World} {base : Nat} {t : TypeId} {v : Value} {L : Nat → List Leaf} {k : Nat} (h : w.ownsRow base t 3 v ((cat L k).length + (L k).length) (flat (cat L k) ++ flat (L k))) : w.ownsRow base t 3 v (cat L (k + 1)).length (flat (cat L (k + 1))) := by
  rw [cat_succ, List.length_append, flat_append]; exact h

set_option maxRecDepth 100000 in
set_option maxHeartbeats 1000000 in
theorem concat_any (g : Nat) (V : Nat → Value) (L : Nat → List Leaf) (w : World) (hV : ∀ j, j < 3 → w.cell? ⟨g, j, none⟩ = some (V j)) (hP : ∀ j, j < 3 → Part w (V j) (L j)) (h0 : 0 < (cat L 3).length) (hn : (cat L 3).length ≤ 1048576) :
    Calls Try.prog 40 #[.slice (some ⟨g, 0, none⟩) 3 3] w fun e w' => ∃ v, e = .returned v ∧ w'.ownsRow w.heap.size 28 3 v (cat L 3).length (flat (cat L 3)) ∧ Below w.heap.size w w' := by
  obtain ⟨i0, hi, hz0, hz1, hz2⟩ := info_parts infoLeaf
  have HV : Hid (∀ j, j < 3 → w.cell? ⟨g, j, none⟩ = some (V j)) := hV
  have HP : Hid (∀ j, j < 3 → Part w (V j) (L j)) := hP
  have HLE : Hid (∀ k, k ≤ 3 → (cat L k).length ≤ (cat L 3).length) := fun k hk => cat_le hk
  obtain ⟨T, hT⟩ : ∃ T, T = (cat L 3).length := ⟨_, rfl⟩
  rw [← hT] at h0 hn HLE ⊢
  have HT : Hid (T = (cat L 3).length) := hT
  clear hV hP hT
  go_enter Try.func40, Try.ntmps40
  go_wp2
  go_loop [3, 5, 11] (fun s _ i => ∃ (k m : Nat), k ≤ 3 ∧ i = .int .i64 k ∧ s = .int .i64 m ∧ Hid (m = (cat L k).length)) (fun _ _ i => 3 - (intOf i).toNat)
  case atStart => exact ⟨0, 0, by omega, rfl, rfl, rfl⟩
  case round =>
    obtain ⟨k, m, hk, rfl, rfl, HM⟩ := hrel
    have hm : m ≤ 1048576 := by have h1 := HLE.out k hk; have h2 := HM.out; omega
    by_cases hlt : k < 3
    · have hltz : (k : Int) < 3 := by omega
      have d1 := HV.out k hlt
      obtain ⟨p, c, hp⟩ := (HP.out k hlt).len
      obtain ⟨r, hr⟩ : ∃ r, r = (L k).length := ⟨_, rfl⟩
      rw [hp, ← hr] at d1
      have HM2 : Hid (m + r = (cat L (k + 1)).length) := by unfold Hid; rw [cat_succ, List.length_append, HM.out, hr]
      have hmr : m + r ≤ 1048576 := by have h1 := HLE.out (k + 1) hlt; have h2 := HM2.out; omega
      have hneg : ¬ (m : Int) + r < 0 := by omega
      clear hp hr
      go_wp2_with fail
      go_round
      case rel => exact ⟨k + 1, m + r, by omega, by go_num, by go_num, HM2⟩
      case measure => simp [intOf]; omega
    · obtain rfl : k = 3 := by omega
      obtain rfl : m = T := by rw [HT.out]; exact HM.out
      have C := grow_any m w h0 hn
      go_wp2_with fail
      refine C.mono ?_
      rintro e w1 ⟨v1, rfl, ho1, hb1⟩
      have HO1 : Hid (w1.ownsRow w.heap.size 28 3 v1 0 []) := ho1
      have HB1 : Hid (Below w.heap.size w w1) := hb1
      clear C ho1 hb1
      go_wp2_with fail
      go_loopw [6, 8, 27] (fun v _ i wr => ∃ (k : Nat), k ≤ 3 ∧ i = .int .i64 k ∧ Hid (wr.ownsRow w.heap.size 28 3 v (cat L k).length (flat (cat L k))) ∧ Hid (Below w.heap.size w wr)) (fun _ _ i _ => 3 - (intOf i).toNat)
      case atStart => exact ⟨0, by omega, rfl, HO1, HB1⟩
      case round =>
        clear HO1 HB1
        obtain ⟨k, hk, rfl, HO, HB⟩ := hrel
        by_cases hlt : k < 3
        · have hltz : (k : Int) < 3 := by omega
          have hll := HLE.out (k + 1) hlt
          rw [cat_succ, List.length_append] at hll
          have d0 := HV.out k hlt
          have d1 : wr.cell? ⟨g, k, none⟩ = some (V k) := (HB.out.cell (p := ⟨g, k, none⟩) (World.block_lt_of_cell? _ _ d0)).trans d0
          clear d0
          rcases (HP.out k hlt).below HB.out with ⟨hv, hl0⟩ | ⟨ad, c, hv, hcc⟩
          · rw [hv] at d1
            have hap := run_append_owned_none (P := Try.prog) (w := wr) w.heap.size 22 22 28 i0 3 Try.underlying22 hi u6 _ _ HO.out
            have HO2 : Hid (wr.ownsRow w.heap.size 28 3 u6 (cat L (k + 1)).length (flat (cat L (k + 1)))) := by
              unfold Hid; rw [cat_succ, hl0, List.append_nil]; exact HO.out
            clear hv hl0 hll
            go_wp2_with (at_builtin; refine Lib.wpList_append_run _ rfl _ _ _ _ rfl _ _ rfl rfl _ _ hap ?_)
            go_roundw
            case rel => exact ⟨k + 1, by omega, by go_num, HO2, HB⟩
            case measure => simp [intOf]; omega
          · rw [hv] at d1
            obtain ⟨r, hr⟩ : ∃ r, r = (L k).length := ⟨_, rfl⟩
            rw [← hr] at d1 hll
            have HFL : Hid ((flat (L k)).length = r * 3) := by unfold Hid; rw [flat_length, hr]
            have HCC : Hid (∀ i u, (flat (L k))[i]? = some u → wr.cell? (ad.add i) = some u) := hcc
            have HR : Hid (r = (L k).length) := hr
            clear hv hcc hr
            go_wp2_with (at_builtin; refine wpList_append_own_at _ rfl (.tmp 31) (.tmp 32) 22 rfl w.heap.size 28 i0 (.agg #[.string ⟨#[]⟩, .int .i64 0, .bool false]) 3 32 Try.underlying22 hi hz0 hz1 hz2 rfl (by decide) u6 _ _ rfl HO.out ad r c (flat (L k)) rfl HFL.out HCC.out (flat_one _) (by unfold maxLen; omega) (by omega) HB.out.size ?_; intro v' w3 hown' hgrow _ hat; have HB3 : Hid (Below w.heap.size w w3) := (own_grow HO.out HB.out hgrow HB.out.size); have HO3 : Hid (w3.ownsRow w.heap.size 28 3 v' (cat L (k + 1)).length (flat (cat L (k + 1)))) := (by rw [HR.out] at hown'; exact own_cat hown'); clear hown' hgrow hat)
            go_roundw
            case rel => exact ⟨k + 1, by omega, by go_num, HO3, HB3⟩
            case measure => simp [intOf]; omega
        · obtain rfl : k = 3 := by omega
          go_wp2_with fail
          go_ret
          exact ⟨_, rfl, by rw [HT.out]; exact HO.out, HB.out⟩

end Li
end Go.Proofs.Ytaefoieoachdfaa
