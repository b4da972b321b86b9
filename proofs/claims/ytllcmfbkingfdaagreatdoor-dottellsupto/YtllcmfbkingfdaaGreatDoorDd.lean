/- What dot.Has and dot.Add answer. -/
import Derived.Test.YtllcmfbkingfdaaGreatDoorDc
import Derived.RegionTactic
import Derived.Deep.QuietTactic
import Derived.BigQuiet
namespace Go.Proofs.YtllcmfbkingfdaaGreatDoor
namespace Dd
set_option linter.unusedVariables false
open Go.ChangeShapes Go.WideShapes Go.ChangeAt Go.RowKit Za Db Dc

theorem wrap_in {x : Int} (h1 : -1000000 ≤ x) (h2 : x ≤ 1000000) : IntKind.i64.wrap x = x := by
  rw [IntKind.wrap_i64]; omega

theorem with_zero {l : List Int} {who m : Int} (h : Dm.withE l who m = 0) : Dm.vecE l = 0 ∧ 1 ≤ who ∧ who ≤ 8 ∧ 1 ≤ m ∧ m ≤ 9999 := by
  unfold Dm.withE at h
  split at h
  · next h1 =>
    unfold Dm.dotE at h
    split at h
    · exact absurd h (by decide)
    · exact ⟨h1, by omega, by omega, by omega, by omega⟩
  · next h1 => exact absurd h h1

theorem box_cells (w : World) (who m : Int) {w2 : World} (hb : Below (w.alloc (.cells #[.int .i64 who, .int .i64 m] 24)).heap.size (w.alloc (.cells #[.int .i64 who, .int .i64 m] 24)) w2) :
    w2.cell? ⟨w.heap.size, 0, none⟩ = some (.int .i64 who) ∧ w2.cell? ⟨w.heap.size, 1, none⟩ = some (.int .i64 m) := by
  have h1 : (w.alloc (.cells #[.int .i64 who, .int .i64 m] 24)).heap.size = w.heap.size + 1 := by simp
  refine ⟨?_, ?_⟩
  · rw [hb.cell (p := ⟨w.heap.size, 0, none⟩) (by rw [h1]; exact Nat.lt_succ_self _)]
    go_simp
  · rw [hb.cell (p := ⟨w.heap.size, 1, none⟩) (by rw [h1]; exact Nat.lt_succ_self _)]
    go_simp

theorem has_any (p : Option Addr) (n c : Nat) (l : List Int) (who m : Int) (w : World) (hl : l.length = n) (h : IntsIn w p l) :
    Calls Tryz.prog 9 #[.slice p n c, .agg #[.int .i64 who, .int .i64 m]] w fun e w' => e = .returned (.tuple #[.bool (Dm.hasB l who m), errV (Dm.withE l who m)]) ∧ Below w.heap.size w w' := by
  have hb : Below w.heap.size w (w.alloc (.cells #[.int .i64 who, .int .i64 m] 24)) := (Below.refl _ w).alloc (Nat.le_refl _) _
  have C := with_any p n c l who m _ hl (h.below hb)
  by_cases h0 : Dm.withE l who m = 0
  · obtain ⟨hv, h1, h8, g1, g9⟩ := with_zero h0
    have hl8 := (Dm.vecE_zero.1 hv).1
    obtain rfl : n = 8 := by omega
    obtain ⟨b, o, rfl, hc⟩ := h.some (by rintro rfl; simp at hl8)
    have hwn : (who - 1).toNat = who.toNat - 1 := by omega
    have hcell := hc (who.toNat - 1) (by omega)
    obtain ⟨x, hx⟩ : ∃ x, x = l.getD (who.toNat - 1) 0 := ⟨_, rfl⟩
    rw [← hx] at hcell
    have HH : Hid (Dm.hasB l who m = decide (m ≤ x)) := by unfold Hid Dm.hasB Dm.known; rw [h0, hwn, ← hx]; simp
    have HE : Hid (errV (Dm.withE l who m) = .nilIface) := by unfold Hid; rw [h0]; rfl
    have HCW : Hid (∀ w2, Below (w.alloc (.cells #[.int .i64 who, .int .i64 m] 24)).heap.size (w.alloc (.cells #[.int .i64 who, .int .i64 m] 24)) w2 → w2.cell? ⟨b, o + (who.toNat - 1), none⟩ = some (.int .i64 x)) := by
      intro w2 hb2
      rw [(bel hb hb2).cell (p := ⟨b, o + (who.toNat - 1), none⟩) (World.block_lt_of_cell? _ _ hcell)]
      exact hcell
    rw [h0, errV_zero] at C
    clear hc h hl hl8 hv h0 hcell hx hwn
    go_enter Tryz.func9, Tryz.ntmps9
    go_wp2_with (go_at_call 21; refine C.mono ?_; rintro e w2 ⟨rfl, hb2⟩; have hcell := HCW.out w2 hb2; obtain ⟨hbx0, hbx1⟩ := box_cells w who m hb2; have HB : Hid (Below w.heap.size w w2) := bel hb hb2; clear hb2 hb HCW C)
    have hi0 : 0 ≤ who - 1 := by omega
    have hi1 : who - 1 < 8 := by omega
    have hwr : IntKind.i64.wrap (who - 1) = who - 1 := wrap_in (by omega) (by omega)
    go_quiet (fail)
    go_wp2
    all_goals
      go_ret2
      refine ⟨?_, ?_⟩
      · rw [HH.out, HE.out]
        simp [*]
      · exact bel_drew HB.out _
  · rw [errV_ne h0] at C
    obtain ⟨k, hk⟩ : ∃ k, k = Dm.withE l who m := ⟨_, rfl⟩
    have HE : Hid (errV (Dm.withE l who m) = .iface 47 (.int .i64 k)) := by unfold Hid; rw [errV_ne h0, hk]
    have HH : Hid (Dm.hasB l who m = false) := by unfold Hid Dm.hasB; simp [h0]
    rw [← hk] at C
    clear h0 hk
    go_enter Tryz.func9, Tryz.ntmps9
    go_wp2_with (go_at_call 21; refine C.mono ?_; rintro e w2 ⟨rfl, hb2⟩)
    go_ret2
    exact ⟨by rw [HE.out, HH.out]; rfl, bel hb hb2⟩

theorem add_no (p : Option Addr) (n c : Nat) (l : List Int) (who m : Int) (w : World) (hl : l.length = n) (h : IntsIn w p l) (hne : Dm.addE l who m ≠ 0) (k : Int) (hk : Dm.addE l who m = k) :
    Calls Tryz.prog 10 #[.slice p n c, .agg #[.int .i64 who, .int .i64 m]] w fun e w' => e = .returned (.tuple #[.slice none 0 0, .iface 47 (.int .i64 k)]) ∧ Below w.heap.size w w' := by
  have hb : Below w.heap.size w (w.alloc (.cells #[.int .i64 who, .int .i64 m] 24)) := (Below.refl _ w).alloc (Nat.le_refl _) _
  have C := with_any p n c l who m _ hl (h.below hb)
  by_cases h0 : Dm.withE l who m = 0
  · obtain ⟨hv, h1, h8, g1, g9⟩ := with_zero h0
    have hl8 := (Dm.vecE_zero.1 hv).1
    obtain rfl : n = 8 := by omega
    obtain ⟨b, o, rfl, hc⟩ := h.some (by rintro rfl; simp at hl8)
    have hwn : (who - 1).toNat = who.toNat - 1 := by omega
    have hcell := hc (who.toNat - 1) (by omega)
    obtain ⟨x, hx⟩ : ∃ x, x = l.getD (who.toNat - 1) 0 := ⟨_, rfl⟩
    rw [← hx] at hcell
    have hx9 : 0 ≤ x ∧ x ≤ 9999 := by
      rw [hx, List.getD_eq_getElem?_getD, List.getElem?_eq_getElem (by omega)]
      exact (Dm.vecE_zero.1 hv).2 _ (List.getElem_mem _)
    have hkn : Dm.known l who = x := by unfold Dm.known; rw [hwn, hx]
    have HCW : Hid (∀ w2, Below (w.alloc (.cells #[.int .i64 who, .int .i64 m] 24)).heap.size (w.alloc (.cells #[.int .i64 who, .int .i64 m] 24)) w2 → w2.cell? ⟨b, o + (who.toNat - 1), none⟩ = some (.int .i64 x)) := by
      intro w2 hb2
      rw [(bel hb hb2).cell (p := ⟨b, o + (who.toNat - 1), none⟩) (World.block_lt_of_cell? _ _ hcell)]
      exact hcell
    rw [h0, errV_zero] at C
    unfold Dm.addE at hk hne
    rw [h0, if_neg (by simp), hkn] at hk hne
    have hi0 : 0 ≤ who - 1 := by omega
    have hi1 : who - 1 < 8 := by omega
    obtain ⟨hx0, hx9⟩ := hx9
    clear hc h hl hl8 hv h0 hcell hx hwn hkn
    by_cases hm : m ≤ x
    · rw [if_pos hm] at hk
      have HK : Hid (7 = k) := hk
      clear hk hne
      go_enter Tryz.func10, Tryz.ntmps10
      go_wp2_with (go_at_call 21; refine C.mono ?_; rintro e w2 ⟨rfl, hb2⟩; have hcell := HCW.out w2 hb2; obtain ⟨hbx0, hbx1⟩ := box_cells w who m hb2; have HB : Hid (Below w.heap.size w w2) := bel hb hb2; clear hb2 hb HCW C)
      go_ret2
      exact ⟨by rw [← HK.out]; rfl, HB.out⟩
    · rw [if_neg hm] at hk hne
      by_cases hm2 : x + 1 < m
      · rw [if_pos hm2] at hk
        have HK : Hid (6 = k) := hk
        clear hk hne
        go_enter Tryz.func10, Tryz.ntmps10
        go_wp2_with (go_at_call 21; refine C.mono ?_; rintro e w2 ⟨rfl, hb2⟩; have hcell := HCW.out w2 hb2; obtain ⟨hbx0, hbx1⟩ := box_cells w who m hb2; have HB : Hid (Below w.heap.size w w2) := bel hb hb2; clear hb2 hb HCW C)
        go_ret2
        exact ⟨by rw [← HK.out]; rfl, HB.out⟩
      · rw [if_neg hm2] at hne
        exact absurd rfl hne
  · have hk2 : Dm.withE l who m = k := by unfold Dm.addE at hk; rw [if_pos h0] at hk; exact hk
    rw [errV_ne h0, hk2] at C
    clear h0 hk hk2 hne
    go_enter Tryz.func10, Tryz.ntmps10
    go_wp2_with (go_at_call 21; refine C.mono ?_; rintro e w2 ⟨rfl, hb2⟩)
    go_ret2
    exact ⟨rfl, bel hb hb2⟩

theorem add_loc (p : Option Addr) (n c : Nat) (l : List Int) (who m : Int) (w : World) (hl : l.length = n) (h : IntsIn w p l) (h0 : Dm.addE l who m = 0) :
    Calls Tryz.prog 10 #[.slice p n c, .agg #[.int .i64 who, .int .i64 m]] w fun e w' => ∃ g cap, e = .returned (.tuple #[.slice (some ⟨g, 0, none⟩) 8 cap, .nilIface]) ∧ IntsIn w' (some ⟨g, 0, none⟩) (l.set (who - 1).toNat m) ∧ w.heap.size ≤ g ∧ Below w.heap.size w w' := by
  have hb : Below w.heap.size w (w.alloc (.cells #[.int .i64 who, .int .i64 m] 24)) := (Below.refl _ w).alloc (Nat.le_refl _) _
  have C := with_any p n c l who m _ hl (h.below hb)
  have hw0 : Dm.withE l who m = 0 := by
    unfold Dm.addE at h0
    split at h0
    · exact h0
    · next hh => simpa using hh
  obtain ⟨hv, h1, h8, g1, g9⟩ := with_zero hw0
  have hl8 := (Dm.vecE_zero.1 hv).1
  obtain rfl : n = 8 := by omega
  obtain ⟨b, o, rfl, hc⟩ := h.some (by rintro rfl; simp at hl8)
  have hwn : (who - 1).toNat = who.toNat - 1 := by omega
  have hcell := hc (who.toNat - 1) (by omega)
  obtain ⟨x, hx⟩ : ∃ x, x = l.getD (who.toNat - 1) 0 := ⟨_, rfl⟩
  have hx9 : 0 ≤ x ∧ x ≤ 9999 := by
    rw [hx, List.getD_eq_getElem?_getD, List.getElem?_eq_getElem (by omega)]
    exact (Dm.vecE_zero.1 hv).2 _ (List.getElem_mem _)
  have hkn : Dm.known l who = x := by unfold Dm.known; rw [hwn, hx]
  have hm : x < m ∧ m ≤ x + 1 := by
    unfold Dm.addE at h0
    rw [hw0, if_neg (by simp), hkn] at h0
    split at h0
    · exact absurd h0 (by decide)
    · split at h0
      · exact absurd h0 (by decide)
      · omega
  have HCA : Hid (∀ w2, Below (w.alloc (.cells #[.int .i64 who, .int .i64 m] 24)).heap.size (w.alloc (.cells #[.int .i64 who, .int .i64 m] 24)) w2 → ∀ j, j < l.length → w2.cell? ⟨b, o + j, none⟩ = some (.int .i64 (l.getD j 0))) := by
    intro w2 hb2 j hj
    rw [(bel hb hb2).cell (p := ⟨b, o + j, none⟩) (World.block_lt_of_cell? _ _ (hc j hj))]
    exact hc j hj
  rw [hw0, errV_zero] at C
  have hi0 : 0 ≤ who - 1 := by omega
  have hi1 : who - 1 < 8 := by omega
  have HL : Hid (l.length = 8) := hl8
  have HX : Hid (x = l.getD (who.toNat - 1) 0) := hx
  have HW : Hid ((who - 1).toNat = who.toNat - 1) := hwn
  obtain ⟨hx0, hx9⟩ := hx9
  obtain ⟨hm1, hm2⟩ := hm
  clear hc h hl hl8 hv h0 hw0 hcell hx hwn hkn
  go_enter Tryz.func10, Tryz.ntmps10
  go_wp2_with (go_at_call 21; refine C.mono ?_; rintro e w2 ⟨rfl, hb2⟩; have HC2 := Hid.out (p := ∀ j, j < l.length → w2.cell? ⟨b, o + j, none⟩ = some (.int .i64 (l.getD j 0))) (HCA.out w2 hb2); have hcell := HC2 (who.toNat - 1) (by rw [HL.out]; omega); rw [← HX.out] at hcell; have HC3 : Hid (∀ j, j < l.length → w2.cell? ⟨b, o + j, none⟩ = some (.int .i64 (l.getD j 0))) := HC2; clear HC2; obtain ⟨hbx0, hbx1⟩ := box_cells w who m hb2; have HB : Hid (Below w.heap.size w w2) := bel hb hb2; clear hb2 hb HCA C)
  refine (clone_cells b o 8 c l w2 HL.out (by decide) (by decide) HC3.out).mono ?_
  rintro e w3 ⟨g, cap, rfl, hg, hcg, hfz, hb3⟩
  have hbx0' : w3.cell? ⟨w.heap.size, 0, none⟩ = some (.int .i64 who) := by rw [hb3.cell (p := ⟨w.heap.size, 0, none⟩) (World.block_lt_of_cell? _ _ hbx0)]; exact hbx0
  have hbx1' : w3.cell? ⟨w.heap.size, 1, none⟩ = some (.int .i64 m) := by rw [hb3.cell (p := ⟨w.heap.size, 1, none⟩) (World.block_lt_of_cell? _ _ hbx1)]; exact hbx1
  have hgc : w3.cell? ⟨g, 0 + (who.toNat - 1), none⟩ = some (.int .i64 (l.getD (who.toNat - 1) 0)) := hcg _ (by rw [HL.out]; omega)
  rw [← HX.out, Nat.zero_add] at hgc
  have hgf := hfz (who.toNat - 1)
  have HG : Hid (w2.heap.size ≤ g) := hg
  have HCG : Hid (∀ j, j < l.length → w3.cell? ⟨g, 0 + j, none⟩ = some (.int .i64 (l.getD j 0))) := hcg
  have HB3 : Hid (Below w.heap.size w w3) := bel HB.out hb3
  have HS : Hid (w.heap.size ≤ w2.heap.size) := HB.out.size
  clear hfz hcg hg hb3 hbx0 hbx1 hcell
  go_wp2_with fail
  go_ret2
  refine ⟨g, cap, rfl, Or.inr ⟨g, 0, rfl, ?_⟩, Nat.le_trans HS.out HG.out, ?_⟩
  · have := set_cells (i := (who - 1).toNat) (x := m) (by rw [HL.out]; omega) HCG.out
    rw [HW.out, Nat.zero_add] at this
    rw [HW.out]
    exact this
  · exact HB3.out.setCell (p := ⟨g, who.toNat - 1, none⟩) (Nat.le_trans HS.out HG.out) _

theorem add_yes (p : Option Addr) (n c : Nat) (l : List Int) (who m : Int) (w : World) (hl : l.length = n) (h : IntsIn w p l) (h0 : Dm.addE l who m = 0) :
    Calls Tryz.prog 10 #[.slice p n c, .agg #[.int .i64 who, .int .i64 m]] w fun e w' => ∃ g cap, e = .returned (.tuple #[.slice (some ⟨g, 0, none⟩) 8 cap, .nilIface]) ∧ IntsIn w' (some ⟨g, 0, none⟩) (l.set (who - 1).toNat m) ∧ Below w.heap.size w w' :=
  (add_loc p n c l who m w hl h h0).mono fun e w' ⟨g, cap, h1, h2, _, h3⟩ => ⟨g, cap, h1, h2, h3⟩

end Dd
end Go.Proofs.YtllcmfbkingfdaaGreatDoor
