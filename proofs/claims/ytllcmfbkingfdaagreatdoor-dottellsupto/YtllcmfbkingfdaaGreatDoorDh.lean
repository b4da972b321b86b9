/- What dot.Compare answers, and the closures by which it asks. -/
import Derived.Test.YtllcmfbkingfdaaGreatDoorDg
namespace Go.Proofs.YtllcmfbkingfdaaGreatDoor
namespace Dh
set_option linter.unusedVariables false
open Go.ChangeShapes Go.WideShapes Go.ChangeAt Go.RowKit Za Db Dg

theorem clos1_any (B1 B2 b1 o1 c b2 o2 d i : Nat) (x y : Int) (W : World) (hi : i < 8) (h1 : W.cell? ⟨B1, 0, none⟩ = some (.slice (some ⟨b1, o1, none⟩) 8 c)) (h2 : W.cell? ⟨B2, 0, none⟩ = some (.slice (some ⟨b2, o2, none⟩) 8 d)) (h3 : W.cell? ⟨b1, o1 + i, none⟩ = some (.int .i64 x)) (h4 : W.cell? ⟨b2, o2 + i, none⟩ = some (.int .i64 y)) :
    Calls Tryz.prog 27 #[.int .i64 i, .pointer (some ⟨B1, 0, none⟩), .pointer (some ⟨B2, 0, none⟩)] W fun e w' => e = .returned (.bool (decide (y < x))) ∧ ∃ k, w' = W.drewN k := by
  have hiz : (i : Int) < 8 := by omega
  go_enter Tryz.func27, Tryz.ntmps27
  go_wp2
  go_quiet (fail)
  go_wp2
  all_goals
    go_ret
    exact ⟨by first | rfl | (refine ret_bool ?_; simp [*]), _, rfl⟩

theorem any1_any (B1 B2 b1 o1 c b2 o2 d : Nat) (a b : List Int) (w : World) (h1 : w.cell? ⟨B1, 0, none⟩ = some (.slice (some ⟨b1, o1, none⟩) 8 c)) (h2 : w.cell? ⟨B2, 0, none⟩ = some (.slice (some ⟨b2, o2, none⟩) 8 d)) (h3 : ∀ j, j < 8 → w.cell? ⟨b1, o1 + j, none⟩ = some (.int .i64 (a.getD j 0))) (h4 : ∀ j, j < 8 → w.cell? ⟨b2, o2 + j, none⟩ = some (.int .i64 (b.getD j 0))) :
    Calls Tryz.prog 26 #[.func (.func 27) #[] #[.pointer (some ⟨B1, 0, none⟩), .pointer (some ⟨B2, 0, none⟩)]] w fun e w' => e = .returned (.bool (Dm.more a b)) ∧ Below w.heap.size w w' := by
  have HC : Hid (∀ W, Below w.heap.size w W → ∀ i : Nat, i < 8 → Calls Tryz.prog 27 #[.int .i64 i, .pointer (some ⟨B1, 0, none⟩), .pointer (some ⟨B2, 0, none⟩)] W fun e w' => e = .returned (.bool (decide (b.getD i 0 < a.getD i 0))) ∧ ∃ k, w' = W.drewN k) := by
    intro W hb i hi
    refine clos1_any B1 B2 b1 o1 c b2 o2 d i (a.getD i 0) (b.getD i 0) W hi ?_ ?_ ?_ ?_
    · rw [hb.cell (p := ⟨B1, 0, none⟩) (World.block_lt_of_cell? _ _ h1)]; exact h1
    · rw [hb.cell (p := ⟨B2, 0, none⟩) (World.block_lt_of_cell? _ _ h2)]; exact h2
    · rw [hb.cell (p := ⟨b1, o1 + i, none⟩) (World.block_lt_of_cell? _ _ (h3 i hi))]; exact h3 i hi
    · rw [hb.cell (p := ⟨b2, o2 + i, none⟩) (World.block_lt_of_cell? _ _ (h4 i hi))]; exact h4 i hi
  clear h1 h2 h3 h4
  go_enter Tryz.func26, Tryz.ntmps26
  go_wp2
  go_loopw [3, 4] (fun _ v wr => ∃ k : Nat, k ≤ 8 ∧ v = .int .i64 k ∧ Hid (∀ j : Nat, j < k → decide (b.getD j 0 < a.getD j 0) = false) ∧ Below w.heap.size w wr) (fun _ v _ => 8 - (intOf v).toNat)
  case atStart => exact ⟨0, by omega, rfl, fun j hj => absurd hj (by omega), Below.refl _ _⟩
  case round =>
    obtain ⟨k, hk, rfl, HK, hbel⟩ := hrel
    have HBE : Hid (Below w.heap.size w wr) := hbel
    clear hbel
    by_cases hlt : k < 8
    · have hltz : (k : Int) < 8 := by omega
      have C := HC.out wr HBE.out k hlt
      cases hd : decide (b.getD k 0 < a.getD k 0)
      case false =>
        rw [hd] at C
        have HD : Hid (decide (b.getD k 0 < a.getD k 0) = false) := hd
        clear hd
        go_wp2_with (go_at_call 27; refine C.mono ?_; rintro e w' ⟨rfl, q, rfl⟩; clear C)
        go_roundw
        case rel => exact ⟨k + 1, by omega, by go_num, fun j hj => by
          rcases Nat.lt_succ_iff_lt_or_eq.1 hj with h | rfl
          · exact HK.out j h
          · exact HD.out, bel_drew HBE.out _⟩
        case measure => simp [intOf]; omega
      case true =>
        rw [hd] at C
        have HD : Hid (decide (b.getD k 0 < a.getD k 0) = true) := hd
        clear hd
        go_wp2_with (go_at_call 27; refine C.mono ?_; rintro e w' ⟨rfl, q, rfl⟩; clear C)
        go_ret
        refine ⟨?_, bel_drew HBE.out _⟩
        refine ret_bool (Eq.symm ?_)
        exact List.any_eq_true.2 ⟨k, List.mem_range.2 hlt, HD.out⟩
    · obtain rfl : k = 8 := by omega
      go_wp2
      go_ret
      refine ⟨?_, HBE.out⟩
      refine ret_bool (Eq.symm ?_)
      cases he : Dm.more a b with
      | false => rfl
      | true =>
        obtain ⟨j, hj, h2⟩ := List.any_eq_true.1 he
        have := HK.out j (List.mem_range.1 hj)
        rw [this] at h2
        exact absurd h2 (by decide)

theorem clos2_any (B1 B2 b1 o1 c b2 o2 d i : Nat) (x y : Int) (W : World) (hi : i < 8) (h1 : W.cell? ⟨B1, 0, none⟩ = some (.slice (some ⟨b1, o1, none⟩) 8 c)) (h2 : W.cell? ⟨B2, 0, none⟩ = some (.slice (some ⟨b2, o2, none⟩) 8 d)) (h3 : W.cell? ⟨b1, o1 + i, none⟩ = some (.int .i64 x)) (h4 : W.cell? ⟨b2, o2 + i, none⟩ = some (.int .i64 y)) :
    Calls Tryz.prog 28 #[.int .i64 i, .pointer (some ⟨B1, 0, none⟩), .pointer (some ⟨B2, 0, none⟩)] W fun e w' => e = .returned (.bool (decide (x < y))) ∧ ∃ k, w' = W.drewN k := by
  have hiz : (i : Int) < 8 := by omega
  go_enter Tryz.func28, Tryz.ntmps28
  go_wp2
  go_quiet (fail)
  go_wp2
  all_goals
    go_ret
    exact ⟨by first | rfl | (refine ret_bool ?_; simp [*]), _, rfl⟩

theorem any2_any (B1 B2 b1 o1 c b2 o2 d : Nat) (a b : List Int) (w : World) (h1 : w.cell? ⟨B1, 0, none⟩ = some (.slice (some ⟨b1, o1, none⟩) 8 c)) (h2 : w.cell? ⟨B2, 0, none⟩ = some (.slice (some ⟨b2, o2, none⟩) 8 d)) (h3 : ∀ j, j < 8 → w.cell? ⟨b1, o1 + j, none⟩ = some (.int .i64 (a.getD j 0))) (h4 : ∀ j, j < 8 → w.cell? ⟨b2, o2 + j, none⟩ = some (.int .i64 (b.getD j 0))) :
    Calls Tryz.prog 26 #[.func (.func 28) #[] #[.pointer (some ⟨B1, 0, none⟩), .pointer (some ⟨B2, 0, none⟩)]] w fun e w' => e = .returned (.bool (Dm.more b a)) ∧ Below w.heap.size w w' := by
  have HC : Hid (∀ W, Below w.heap.size w W → ∀ i : Nat, i < 8 → Calls Tryz.prog 28 #[.int .i64 i, .pointer (some ⟨B1, 0, none⟩), .pointer (some ⟨B2, 0, none⟩)] W fun e w' => e = .returned (.bool (decide (a.getD i 0 < b.getD i 0))) ∧ ∃ k, w' = W.drewN k) := by
    intro W hb i hi
    refine clos2_any B1 B2 b1 o1 c b2 o2 d i (a.getD i 0) (b.getD i 0) W hi ?_ ?_ ?_ ?_
    · rw [hb.cell (p := ⟨B1, 0, none⟩) (World.block_lt_of_cell? _ _ h1)]; exact h1
    · rw [hb.cell (p := ⟨B2, 0, none⟩) (World.block_lt_of_cell? _ _ h2)]; exact h2
    · rw [hb.cell (p := ⟨b1, o1 + i, none⟩) (World.block_lt_of_cell? _ _ (h3 i hi))]; exact h3 i hi
    · rw [hb.cell (p := ⟨b2, o2 + i, none⟩) (World.block_lt_of_cell? _ _ (h4 i hi))]; exact h4 i hi
  clear h1 h2 h3 h4
  go_enter Tryz.func26, Tryz.ntmps26
  go_wp2
  go_loopw [3, 4] (fun _ v wr => ∃ k : Nat, k ≤ 8 ∧ v = .int .i64 k ∧ Hid (∀ j : Nat, j < k → decide (a.getD j 0 < b.getD j 0) = false) ∧ Below w.heap.size w wr) (fun _ v _ => 8 - (intOf v).toNat)
  case atStart => exact ⟨0, by omega, rfl, fun j hj => absurd hj (by omega), Below.refl _ _⟩
  case round =>
    obtain ⟨k, hk, rfl, HK, hbel⟩ := hrel
    have HBE : Hid (Below w.heap.size w wr) := hbel
    clear hbel
    by_cases hlt : k < 8
    · have hltz : (k : Int) < 8 := by omega
      have C := HC.out wr HBE.out k hlt
      cases hd : decide (a.getD k 0 < b.getD k 0)
      case false =>
        rw [hd] at C
        have HD : Hid (decide (a.getD k 0 < b.getD k 0) = false) := hd
        clear hd
        go_wp2_with (go_at_call 28; refine C.mono ?_; rintro e w' ⟨rfl, q, rfl⟩; clear C)
        go_roundw
        case rel => exact ⟨k + 1, by omega, by go_num, fun j hj => by
          rcases Nat.lt_succ_iff_lt_or_eq.1 hj with h | rfl
          · exact HK.out j h
          · exact HD.out, bel_drew HBE.out _⟩
        case measure => simp [intOf]; omega
      case true =>
        rw [hd] at C
        have HD : Hid (decide (a.getD k 0 < b.getD k 0) = true) := hd
        clear hd
        go_wp2_with (go_at_call 28; refine C.mono ?_; rintro e w' ⟨rfl, q, rfl⟩; clear C)
        go_ret
        refine ⟨?_, bel_drew HBE.out _⟩
        refine ret_bool (Eq.symm ?_)
        exact List.any_eq_true.2 ⟨k, List.mem_range.2 hlt, HD.out⟩
    · obtain rfl : k = 8 := by omega
      go_wp2
      go_ret
      refine ⟨?_, HBE.out⟩
      refine ret_bool (Eq.symm ?_)
      cases he : Dm.more b a with
      | false => rfl
      | true =>
        obtain ⟨j, hj, h2⟩ := List.any_eq_true.1 he
        have := HK.out j (List.mem_range.1 hj)
        rw [this] at h2
        exact absurd h2 (by decide)

theorem compare_any (p q : Option Addr) (n m c d : Nat) (a b : List Int) (w : World) (ha : a.length = n) (hb : b.length = m) (h1 : IntsIn w p a) (h2 : IntsIn w q b) :
    Calls Tryz.prog 15 #[.slice p n c, .slice q m d] w fun e w' => e = .returned (.tuple #[.int .i64 (Dm.cmpK a b), .bool (Dm.cmpB a b), errV (Dm.bothE a b)]) ∧ Below w.heap.size w w' := by
  have hb0 : Below w.heap.size w ((w.alloc (.cells #[.slice p n c] 22)).alloc (.cells #[.slice q m d] 22)) := ((Below.refl _ w).alloc (Nat.le_refl _) _).alloc (by simp) _
  have C := both_any p q n m c d a b _ ha hb (h1.below hb0) (h2.below hb0)
  by_cases h0 : Dm.bothE a b = 0
  · rw [h0, errV_zero] at C
    obtain ⟨va, vb⟩ := Dm.bothE_zero.1 h0
    have la := (Dm.vecE_zero.1 va).1
    have lb := (Dm.vecE_zero.1 vb).1
    obtain rfl : n = 8 := by omega
    obtain rfl : m = 8 := by omega
    obtain ⟨b1, o1, rfl, c1⟩ := (h1.below hb0).some (by rintro rfl; simp at la)
    obtain ⟨b2, o2, rfl, c2⟩ := (h2.below hb0).some (by rintro rfl; simp at lb)
    obtain ⟨wb, hwb⟩ : ∃ wb, wb = (w.alloc (.cells #[.slice (some ⟨b1, o1, none⟩) 8 c] 22)).alloc (.cells #[.slice (some ⟨b2, o2, none⟩) 8 d] 22) := ⟨_, rfl⟩
    have x1 : wb.cell? ⟨w.heap.size, 0, none⟩ = some (.slice (some ⟨b1, o1, none⟩) 8 c) := by rw [hwb]; go_simp
    have x2 : wb.cell? ⟨w.heap.size + 1, 0, none⟩ = some (.slice (some ⟨b2, o2, none⟩) 8 d) := by rw [hwb]; go_simp
    have HA : Hid (∀ W, Below wb.heap.size wb W → Calls Tryz.prog 26 #[.func (.func 27) #[] #[.pointer (some ⟨w.heap.size, 0, none⟩), .pointer (some ⟨w.heap.size + 1, 0, none⟩)]] W fun e w' => e = .returned (.bool (Dm.more a b)) ∧ Below W.heap.size W w') := by
      intro W hB
      refine any1_any _ _ b1 o1 c b2 o2 d a b W ?_ ?_ ?_ ?_
      · exact (hB.cell (World.block_lt_of_cell? _ _ x1)).trans x1
      · exact (hB.cell (World.block_lt_of_cell? _ _ x2)).trans x2
      · intro j hj; have := c1 j (by omega); rw [← hwb] at this; exact (hB.cell (World.block_lt_of_cell? _ _ this)).trans this
      · intro j hj; have := c2 j (by omega); rw [← hwb] at this; exact (hB.cell (World.block_lt_of_cell? _ _ this)).trans this
    have HB : Hid (∀ W, Below wb.heap.size wb W → Calls Tryz.prog 26 #[.func (.func 28) #[] #[.pointer (some ⟨w.heap.size, 0, none⟩), .pointer (some ⟨w.heap.size + 1, 0, none⟩)]] W fun e w' => e = .returned (.bool (Dm.more b a)) ∧ Below W.heap.size W w') := by
      intro W hB
      refine any2_any _ _ b1 o1 c b2 o2 d a b W ?_ ?_ ?_ ?_
      · exact (hB.cell (World.block_lt_of_cell? _ _ x1)).trans x1
      · exact (hB.cell (World.block_lt_of_cell? _ _ x2)).trans x2
      · intro j hj; have := c1 j (by omega); rw [← hwb] at this; exact (hB.cell (World.block_lt_of_cell? _ _ this)).trans this
      · intro j hj; have := c2 j (by omega); rw [← hwb] at this; exact (hB.cell (World.block_lt_of_cell? _ _ this)).trans this
    rw [hwb] at HA HB
    have HE : Hid (errV (Dm.bothE a b) = .nilIface) := by unfold Hid; rw [h0]; rfl
    have HK : Hid (Dm.cmpK a b = Dm.cmpI a b) := by unfold Hid Dm.cmpK; rw [if_pos h0]
    have HBB : Hid (Dm.cmpB a b = !(Dm.more a b && Dm.more b a)) := by unfold Hid Dm.cmpB; rw [decide_eq_true h0]; rfl
    have HI : Hid (Dm.cmpI a b = if Dm.more a b && Dm.more b a then 0 else if Dm.more a b then 1 else if Dm.more b a then -1 else 0) := rfl
    clear ha hb h1 h2 c1 c2 la lb va vb x1 x2 h0 hwb wb
    cases hm1 : Dm.more a b
    all_goals
      cases hm2 : Dm.more b a
      all_goals
        rw [hm1] at HA HBB HI
        rw [hm2] at HB HBB HI
        clear hm1 hm2
        go_enter Tryz.func15, Tryz.ntmps15
        go_wp2_with fail
        refine C.mono ?_
        rintro e w' ⟨rfl, hw⟩
        have hw2 := hw.symm; subst hw2; clear hw C
        go_wp2_with fail
        refine (HA.out _ (Below.refl _ _)).mono ?_
        rintro e w2 ⟨rfl, hB2⟩
        have CB := HB.out w2 hB2
        have HB2 : Hid (Below w.heap.size w w2) := bel hb0 hB2
        clear hB2 HA HB hb0
        go_wp2_with fail
        refine CB.mono ?_
        rintro e w3 ⟨rfl, hB3⟩
        have HB3 : Hid (Below w.heap.size w w3) := bel HB2.out hB3
        clear CB hB3 HB2
        go_wp2_with fail
        go_ret3
        exact ⟨by rw [HE.out, HK.out, HBB.out, HI.out]; rfl, HB3.out⟩
  · obtain ⟨k, hk⟩ : ∃ k, k = Dm.bothE a b := ⟨_, rfl⟩
    have HE : Hid (errV (Dm.bothE a b) = .iface 47 (.int .i64 k)) := by unfold Hid; rw [errV_ne h0, hk]
    have HK : Hid (Dm.cmpK a b = 0) := by unfold Hid Dm.cmpK; rw [if_neg h0]
    have HBB : Hid (Dm.cmpB a b = false) := by unfold Hid Dm.cmpB; rw [decide_eq_false h0]; rfl
    rw [errV_ne h0, ← hk] at C
    clear ha hb h1 h2 h0 hk
    go_enter Tryz.func15, Tryz.ntmps15
    go_wp2_with fail
    refine C.mono ?_
    rintro e w' ⟨rfl, hw⟩
    have hw2 := hw.symm; subst hw2; clear hw C
    go_wp2_with fail
    go_ret3
    exact ⟨by rw [HE.out, HK.out, HBB.out]; rfl, hb0⟩

end Dh
end Go.Proofs.YtllcmfbkingfdaaGreatDoor
