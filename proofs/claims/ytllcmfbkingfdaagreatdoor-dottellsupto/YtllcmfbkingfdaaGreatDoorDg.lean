/- What dot.checkBoth, dot.Merge and leafsame.Ints answer. -/
import Derived.Test.YtllcmfbkingfdaaGreatDoorDb
import Derived.OwnWalk
import Derived.Laws.OwnMore
import Derived.RegionTactic
import Derived.BigRegion
import Derived.Deep.QuietTactic
import Derived.BigQuiet
namespace Go.Proofs.YtllcmfbkingfdaaGreatDoor
namespace Dg
set_option linter.unusedVariables false
open Go.ChangeShapes Go.WideShapes Go.ChangeAt Go.RowKit Za Db

theorem both_any (p q : Option Addr) (n m c d : Nat) (a b : List Int) (w : World) (ha : a.length = n) (hb : b.length = m) (h1 : IntsIn w p a) (h2 : IntsIn w q b) :
    Calls Tryz.prog 25 #[.slice p n c, .slice q m d] w fun e w' => e = .returned (errV (Dm.bothE a b)) ∧ w' = w := by
  have C1 := vector_any p n c a w ha h1
  have C2 := vector_any q m d b w hb h2
  clear ha hb h1 h2
  by_cases h0 : Dm.vecE a = 0
  · rw [h0, errV_zero] at C1
    have HE : Hid (Dm.bothE a b = Dm.vecE b) := by unfold Hid Dm.bothE; rw [if_pos h0]
    clear h0
    go_enter Tryz.func25, Tryz.ntmps25
    go_wp2_with fail
    refine C1.mono ?_
    rintro e w' ⟨rfl, hw⟩
    have hw2 := hw.symm; subst hw2; clear hw
    go_wp2_with fail
    refine C2.mono ?_
    rintro e w' ⟨rfl, hw⟩
    have hw2 := hw.symm; subst hw2; clear hw
    go_wp2_with fail
    go_ret
    exact ⟨by rw [HE.out]; rfl, rfl⟩
  · obtain ⟨k, hk⟩ : ∃ k, k = Dm.vecE a := ⟨_, rfl⟩
    have HE : Hid (errV (Dm.bothE a b) = .iface 47 (.int .i64 k)) := by unfold Hid Dm.bothE; rw [if_neg h0, errV_ne h0, hk]
    rw [errV_ne h0, ← hk] at C1
    clear h0 hk C2
    go_enter Tryz.func25, Tryz.ntmps25
    go_wp2_with fail
    refine C1.mono ?_
    rintro e w' ⟨rfl, hw⟩
    have hw2 := hw.symm; subst hw2; clear hw
    go_wp2_with fail
    go_ret
    exact ⟨by rw [HE.out]; rfl, rfl⟩

/- a row of the call's own that is filled, one cell after the other -/
def Fill (w : World) (g n : Nat) (F : Nat → Value) (k : Nat) (wr : World) : Prop :=
  (∀ j, j < k → wr.cell? ⟨g, j, none⟩ = some (F j)) ∧ (∀ j, j < n → ∃ v, wr.cell? ⟨g, j, none⟩ = some v) ∧ (∀ j, wr.frozen? ⟨g, j, none⟩ = false) ∧ Below w.heap.size w wr ∧ w.heap.size ≤ g
theorem Fill.start {w w1 : World} {t : TypeId} {F : Nat → Value} {n cap : Nat} {g : Nat} {xs : List Value} (hg : w.heap.size ≤ g) (h : w1.ownsRow g t 1 (.slice (some ⟨g, 0, none⟩) n cap) n xs) (hb : Below w.heap.size w w1) : Fill w g n F 0 w1 := by
  refine ⟨fun j hj => absurd hj (by omega), ?_, ?_, hb, hg⟩
  · intro j hj
    rcases h.2 with ⟨e, _⟩ | ⟨g', cap', cur, e, _, h2, h3, h4, h5, h6⟩
    · cases e
    · injection e with e1
      injection e1 with e1
      injection e1 with e1
      subst e1
      refine ⟨cur[j]'(by omega), ?_⟩
      simp only [World.cell?, h2]
      simp [show j < cur.size by omega]
  · intro j
    rcases h.2 with ⟨e, _⟩ | ⟨g', cap', cur, e, _, h2, h3, h4, h5, h6⟩
    · cases e
    · injection e with e1
      injection e1 with e1
      injection e1 with e1
      subst e1
      simp [World.frozen?, h2]
theorem Fill.step {w wr : World} {g n k : Nat} {F : Nat → Value} (h : Fill w g n F k wr) (hk : k < n) (v : Value) (hv : v = F k) : Fill w g n F (k + 1) (wr.setCell ⟨g, k, none⟩ v) := by
  obtain ⟨h1, h2, h3, h4, h5⟩ := h
  refine ⟨fun j hj => ?_, fun j hj => ?_, fun j => ?_, h4.setCell (p := ⟨g, k, none⟩) h5 _, h5⟩
  · by_cases e : j = k
    · subst e
      obtain ⟨u, hu⟩ := h2 j hk
      rw [World.cell?_setCell_same _ _ _ hu, hv]
    · rw [World.cell?_setCell_other _ _ _ _ (by intro e2; injection e2; omega)]
      exact h1 j (by omega)
  · obtain ⟨u, hu⟩ := h2 j hj
    exact cell?_setCell_some hu
  · rw [World.frozen?_setCell]; exact h3 j
theorem Fill.below {w wr w2 : World} {g n k : Nat} {F : Nat → Value} (h : Fill w g n F k wr) (hg : g < wr.heap.size) (hb : Below wr.heap.size wr w2) : Fill w g n F k w2 := by
  obtain ⟨h1, h2, h3, h4, h5⟩ := h
  refine ⟨fun j hj => ?_, fun j hj => ?_, fun j => ?_, bel h4 hb, h5⟩
  · rw [hb.cell (p := ⟨g, j, none⟩) hg]; exact h1 j hj
  · rw [hb.cell (p := ⟨g, j, none⟩) hg]; exact h2 j hj
  · rw [hb.frozen (p := ⟨g, j, none⟩) hg]; exact h3 j
theorem Fill.drew {w wr : World} {g n k : Nat} {F : Nat → Value} (h : Fill w g n F k wr) (q : Nat) : Fill w g n F k (wr.drewN q) :=
  ⟨h.1, h.2.1, h.2.2.1, bel_drew h.2.2.2.1 q, h.2.2.2.2⟩
theorem Fill.drew1 {w wr : World} {g n k : Nat} {F : Nat → Value} (h : Fill w g n F k wr) : Fill w g n F k wr.drew :=
  ⟨h.1, h.2.1, h.2.2.1, h.2.2.2.1.drew, h.2.2.2.2⟩
theorem Fill.lt {w wr : World} {g n k : Nat} {F : Nat → Value} (h : Fill w g n F k wr) (hn : 0 < n) : g < wr.heap.size := by
  obtain ⟨v, hv⟩ := h.2.1 0 hn
  exact World.block_lt_of_cell? _ _ hv
theorem Fill.ints {w wr : World} {g n : Nat} {F : Nat → Value} {l : List Int} (h : Fill w g n F n wr) (hl : l.length = n) (hF : ∀ j, j < n → F j = .int .i64 (l.getD j 0)) : IntsIn wr (some ⟨g, 0, none⟩) l :=
  Or.inr ⟨g, 0, rfl, fun j hj => by rw [Nat.zero_add, h.1 j (by omega), hF j (by omega)]⟩

theorem merge_no (p q : Option Addr) (n m c d : Nat) (a b : List Int) (w : World) (ha : a.length = n) (hb : b.length = m) (h1 : IntsIn w p a) (h2 : IntsIn w q b) (hne : Dm.bothE a b ≠ 0) :
    Calls Tryz.prog 14 #[.slice p n c, .slice q m d] w fun e w' => e = .returned (.tuple #[.slice none 0 0, .iface 47 (.int .i64 (Dm.bothE a b))]) ∧ w' = w := by
  have C := both_any p q n m c d a b w ha hb h1 h2
  rw [errV_ne hne] at C
  obtain ⟨k, hk⟩ : ∃ k, k = Dm.bothE a b := ⟨_, rfl⟩
  rw [← hk] at C ⊢
  clear ha hb h1 h2 hk hne
  go_enter Tryz.func14, Tryz.ntmps14
  go_wp2_with fail
  refine C.mono ?_
  rintro e w' ⟨rfl, hw⟩
  have hw2 := hw.symm; subst hw2; clear hw
  go_wp2_with fail
  go_ret2
  exact ⟨rfl, rfl⟩

theorem ints_any (p q : Option Addr) (n m c d : Nat) (a b : List Int) (w : World) (ha : a.length = n) (hb : b.length = m) (hn : n ≤ 1048576) (h1 : IntsIn w p a) (h2 : IntsIn w q b) :
    Calls Tryz.prog 11 #[.slice p n c, .slice q m d] w fun e w' => e = .returned (.bool (a == b)) ∧ Below w.heap.size w w' := by
  by_cases hnm : n = m
  · subst hnm
    have HA : Hid (a.length = n) := ha
    have HB : Hid (b.length = n) := hb
    by_cases h0 : n = 0
    · have HE : Hid ((a == b) = true) := by
        unfold Hid
        rw [List.eq_nil_of_length_eq_zero (ha.trans h0), List.eq_nil_of_length_eq_zero (hb.trans h0)]; rfl
      subst h0
      clear ha hb h1 h2
      go_enter Tryz.func11, Tryz.ntmps11
      go_wp2
      go_loop [5] (fun v => v = .int .i64 0) (fun _ => 0)
      case atStart => rfl
      case round =>
        obtain rfl := hrel
        go_wp2
        go_ret
        exact ⟨by rw [HE.out]; rfl, Below.refl _ _⟩
    · obtain ⟨b1, o1, rfl, c1⟩ := h1.some (by rintro rfl; exact h0 ha.symm)
      obtain ⟨b2, o2, rfl, c2⟩ := h2.some (by rintro rfl; exact h0 hb.symm)
      have C1 : Hid (∀ j, j < n → w.cell? ⟨b1, o1 + j, none⟩ = some (.int .i64 (a.getD j 0))) := fun j hj => c1 j (by omega)
      have C2 : Hid (∀ j, j < n → w.cell? ⟨b2, o2 + j, none⟩ = some (.int .i64 (b.getD j 0))) := fun j hj => c2 j (by omega)
      clear ha hb h1 h2 c1 c2 h0
      go_enter Tryz.func11, Tryz.ntmps11
      go_wp2
      go_loopw [5] (fun v wr => ∃ k : Nat, k ≤ n ∧ v = .int .i64 k ∧ Hid (∀ j, j < k → a.getD j 0 = b.getD j 0) ∧ Below w.heap.size w wr) (fun v _ => n - (intOf v).toNat)
      case atStart => exact ⟨0, by omega, rfl, fun j hj => absurd hj (by omega), Below.refl _ _⟩
      case round =>
        obtain ⟨k, hk, rfl, HK, hbel⟩ := hrel
        have HBE : Hid (Below w.heap.size w wr) := hbel
        clear hbel
        by_cases hlt : k < n
        · have hltz : (k : Int) < n := by omega
          have e1 := C1.out k hlt
          have e2 := C2.out k hlt
          obtain ⟨x, hx⟩ : ∃ x, x = a.getD k 0 := ⟨_, rfl⟩
          obtain ⟨y, hy⟩ : ∃ y, y = b.getD k 0 := ⟨_, rfl⟩
          rw [← hx] at e1
          rw [← hy] at e2
          have HX : Hid (x = a.getD k 0) := hx
          have HY : Hid (y = b.getD k 0) := hy
          clear hx hy
          have d1 : wr.cell? ⟨b1, o1 + k, none⟩ = some (.int .i64 x) := (HBE.out.cell (World.block_lt_of_cell? _ _ e1)).trans e1
          have d2 : wr.cell? ⟨b2, o2 + k, none⟩ = some (.int .i64 y) := (HBE.out.cell (World.block_lt_of_cell? _ _ e2)).trans e2
          clear e1 e2
          cases hxy : (x != y)
          case false =>
            go_wp2
            go_quiet (fail)
            go_wp2
            go_roundw
            case rel => exact ⟨k + 1, by omega, by go_num, fun j hj => by
              rcases Nat.lt_succ_iff_lt_or_eq.1 hj with h | rfl
              · exact HK.out j h
              · rw [← HX.out, ← HY.out]; simpa using hxy, bel_drew HBE.out _⟩
            case measure => simp [intOf]; omega
          case true =>
            go_wp2
            go_quiet (fail)
            go_wp2
            go_ret
            refine ⟨?_, bel_drew HBE.out _⟩
            refine ret_bool ?_
            cases he : (a == b)
            · rfl
            · have : a = b := by simpa using he
              rw [HX.out, HY.out, this] at hxy
              simp at hxy
        · obtain rfl : k = n := by omega
          go_wp2
          go_ret
          refine ⟨?_, HBE.out⟩
          refine ret_bool ?_
          have : a = b := by
            apply List.ext_getElem?
            intro i
            by_cases hi : i < k
            · have := HK.out i hi
              rw [List.getD_eq_getElem?_getD, List.getD_eq_getElem?_getD, List.getElem?_eq_getElem (by rw [HA.out]; exact hi), List.getElem?_eq_getElem (by rw [HB.out]; exact hi)] at this
              rw [List.getElem?_eq_getElem (by rw [HA.out]; exact hi), List.getElem?_eq_getElem (by rw [HB.out]; exact hi)]
              simpa using this
            · rw [List.getElem?_eq_none (by rw [HA.out]; omega), List.getElem?_eq_none (by rw [HB.out]; omega)]
          rw [this]; simp
  · have hnm' : ((n : Int) == (m : Int)) = false := by simp; omega
    have HE : Hid ((a == b) = false) := by
      unfold Hid
      cases he : (a == b)
      · rfl
      · have : a = b := by simpa using he
        subst this; omega
    clear ha hb h1 h2
    go_enter Tryz.func11, Tryz.ntmps11
    go_wp2
    go_ret
    exact ⟨by rw [HE.out]; rfl, Below.refl _ _⟩

theorem max_if (x y : Int) : (if x < y then y else x) = max x y := by
  rw [Int.max_def]; split <;> split <;> omega

set_option maxHeartbeats 1000000 in
theorem merge_yes (p q : Option Addr) (n m c d : Nat) (a b : List Int) (w : World) (ha : a.length = n) (hb : b.length = m) (h1 : IntsIn w p a) (h2 : IntsIn w q b) (h0 : Dm.bothE a b = 0) :
    Calls Tryz.prog 14 #[.slice p n c, .slice q m d] w fun e w' => e = .returned (.tuple #[.slice (some ⟨w.heap.size, 0, none⟩) 8 8, .nilIface]) ∧ IntsIn w' (some ⟨w.heap.size, 0, none⟩) (Dm.mergeL a b) ∧ Below w.heap.size w w' := by
  have C := both_any p q n m c d a b w ha hb h1 h2
  rw [h0, errV_zero] at C
  obtain ⟨va, vb⟩ := Dm.bothE_zero.1 h0
  have la := (Dm.vecE_zero.1 va).1
  have lb := (Dm.vecE_zero.1 vb).1
  obtain rfl : n = 8 := by omega
  obtain rfl : m = 8 := by omega
  obtain ⟨b1, o1, rfl, c1⟩ := h1.some (by rintro rfl; simp at la)
  obtain ⟨b2, o2, rfl, c2⟩ := h2.some (by rintro rfl; simp at lb)
  have C1 : Hid (∀ j, j < 8 → w.cell? ⟨b1, o1 + j, none⟩ = some (.int .i64 (a.getD j 0))) := fun j hj => c1 j (by omega)
  have C2 : Hid (∀ j, j < 8 → w.cell? ⟨b2, o2 + j, none⟩ = some (.int .i64 (b.getD j 0))) := fun j hj => c2 j (by omega)
  have HM : Hid (∀ j, j < 8 → (Dm.mergeL a b).getD j 0 = max (a.getD j 0) (b.getD j 0)) := by
    intro j hj
    unfold Dm.mergeL
    rw [List.getD_eq_getElem?_getD, List.getD_eq_getElem?_getD, List.getD_eq_getElem?_getD, List.getElem?_eq_getElem (by simp; omega), List.getElem?_eq_getElem (by omega), List.getElem?_eq_getElem (by omega)]
    simp
  have HML : Hid ((Dm.mergeL a b).length = 8) := by unfold Hid Dm.mergeL; simp; omega
  obtain ⟨i0, hi, hz0, hz1, hz2⟩ := info_parts infoInt
  clear ha hb h1 h2 h0 va vb la lb c1 c2
  go_enter Tryz.func14, Tryz.ntmps14
  go_wp2_with fail
  refine C.mono ?_
  rintro e w' ⟨rfl, hw⟩
  have hw2 := hw.symm; subst hw2; clear hw C
  go_wp2_with (at_make; refine wpList_make_full _ rfl (.tmp 16) (.tmp 16) 22 rfl w.heap.size 3 i0 (.int .i64 0) 1 Tryz.underlying22 hi hz0 hz1 .i64 .i64 8 8 8 rfl rfl rfl rfl (by rw [hz2]; omega) (by unfold maxLen; omega) (Nat.le_refl _) ?_; intro w1 hown hgrow; have HF : Hid (Fill w w.heap.size 8 (fun j => .int .i64 (max (a.getD j 0) (b.getD j 0))) 0 w1) := Fill.start (Nat.le_refl _) hown ((Below.refl _ w).grown hgrow (Nat.le_refl _) (fun k hk => by cases hk)); clear hown hgrow)
  go_loopw [8, 20] (fun _ v wr => ∃ k : Nat, k ≤ 8 ∧ v = .int .i64 k ∧ Hid (Fill w w.heap.size 8 (fun j => .int .i64 (max (a.getD j 0) (b.getD j 0))) k wr)) (fun _ v _ => 8 - (intOf v).toNat)
  case atStart => exact ⟨0, by omega, rfl, HF⟩
  case round =>
    clear HF
    obtain ⟨k, hk, rfl, HF⟩ := hrel
    by_cases hlt : k < 8
    · have hltz : (k : Int) < 8 := by omega
      have e1 := C1.out k hlt
      have e2 := C2.out k hlt
      obtain ⟨x, hx⟩ : ∃ x, x = a.getD k 0 := ⟨_, rfl⟩
      obtain ⟨y, hy⟩ : ∃ y, y = b.getD k 0 := ⟨_, rfl⟩
      rw [← hx] at e1
      rw [← hy] at e2
      have HX : Hid (x = a.getD k 0) := hx
      have HY : Hid (y = b.getD k 0) := hy
      clear hx hy
      have d1 : wr.cell? ⟨b1, o1 + k, none⟩ = some (.int .i64 x) := (HF.out.2.2.2.1.cell (World.block_lt_of_cell? _ _ e1)).trans e1
      have d2 : wr.cell? ⟨b2, o2 + k, none⟩ = some (.int .i64 y) := (HF.out.2.2.2.1.cell (World.block_lt_of_cell? _ _ e2)).trans e2
      obtain ⟨old, d3⟩ := HF.out.2.1 k hlt
      have d4 := HF.out.2.2.1 k
      clear e1 e2
      go_wp2
      go_region
      generalize hz : (if x < y then y else x) = z
      have HN : Hid (Fill w w.heap.size 8 (fun j => .int .i64 (max (a.getD j 0) (b.getD j 0))) (k + 1) ((wr.setCell ⟨w.heap.size, k, none⟩ (.int .i64 z)).drew)) :=
        (HF.out.step hlt (.int .i64 z) (by show Value.int .i64 z = .int .i64 (max (a.getD k 0) (b.getD k 0)); rw [← HX.out, ← HY.out, ← hz, max_if])).drew1
      clear hz
      go_wp2
      go_roundw
      case rel => exact ⟨k + 1, by omega, by go_num, HN⟩
      case measure => simp [intOf]; omega
    · obtain rfl : k = 8 := by omega
      go_wp2
      go_ret2
      exact ⟨rfl, HF.out.ints HML.out (fun j hj => by rw [HM.out j hj]), HF.out.2.2.2.1⟩

end Dg
end Go.Proofs.YtllcmfbkingfdaaGreatDoor
