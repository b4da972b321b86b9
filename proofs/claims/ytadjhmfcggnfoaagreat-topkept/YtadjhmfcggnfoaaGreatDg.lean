/- What dot.checkBoth, dot.Merge and leafsame.Ints answer. -/
import Derived.Test.YtadjhmfcggnfoaaGreatJ9
import Derived.OwnWalk
import Derived.Laws.OwnMore
import Derived.RegionTactic
import Derived.BigRegion
import Derived.Deep.QuietTactic
import Derived.BigQuiet
namespace Go.Proofs.YtadjhmfcggnfoaaGreat
namespace Dg
set_option linter.unusedVariables false
open Go.ChangeShapes Go.WideShapes Go.ChangeAt Go.RowKit Za Db

/- a row of the call's own that is filled, one cell after the other -/
def Fill (w : World) (g n : Nat) (F : Nat → Value) (k : Nat) (wr : World) : Prop :=
  (∀ j, j < k → wr.cell? ⟨g, j, none⟩ = some (F j)) ∧ (∀ j, j < n → ∃ v, wr.cell? ⟨g, j, none⟩ = some v) ∧ (∀ j, wr.frozen? ⟨g, j, none⟩ = false) ∧ Below w.heap.size w wr ∧ w.heap.size ≤ g
theorem Fill.start {w w1 : World} {t : TypeId} {F : Nat → Value} {n cap : Nat} {g : Nat} {xs : List Value} (hg : w.heap.size ≤ g) (h : w1.ownsRow g t 1 (.slice (some ⟨g, 0, none⟩) n cap) n xs) (hb : Below w.heap.size w w1) : Fill w g n F 0 w1 := by
  refine ⟨fun j hj => absurd hj (by omega), ?_, ?_, hb, hg⟩
  · intro j hj
    rcases h.2 with ⟨e, _⟩ | ⟨g', cap', cur, e, _, h2, h3, h4, h5, h6⟩
    · cases e
    · injection e with e1
      injection e1 with e1
      injection e1 with e1
      subst e1
      refine ⟨cur[j]'(by omega), ?_⟩
      simp only [World.cell?, h2]
      simp [show j < cur.size by omega]
  · intro j
    rcases h.2 with ⟨e, _⟩ | ⟨g', cap', cur, e, _, h2, h3, h4, h5, h6⟩
    · cases e
    · injection e with e1
      injection e1 with e1
      injection e1 with e1
      subst e1
      simp [World.frozen?, h2]
theorem Fill.step {w wr : World} {g n k : Nat} {F : Nat → Value} (h : Fill w g n F k wr) (hk : k < n) (v : Value) (hv : v = F k) : Fill w g n F (k + 1) (wr.setCell ⟨g, k, none⟩ v) := by
  obtain ⟨h1, h2, h3, h4, h5⟩ := h
  refine ⟨fun j hj => ?_, fun j hj => ?_, fun j => ?_, h4.setCell (p := ⟨g, k, none⟩) h5 _, h5⟩
  · by_cases e : j = k
    · subst e
      obtain ⟨u, hu⟩ := h2 j hk
      rw [World.cell?_setCell_same _ _ _ hu, hv]
    · rw [World.cell?_setCell_other _ _ _ _ (by intro e2; injection e2; omega)]
      exact h1 j (by omega)
  · obtain ⟨u, hu⟩ := h2 j hj
    exact cell?_setCell_some hu
  · rw [World.frozen?_setCell]; exact h3 j
theorem Fill.below {w wr w2 : World} {g n k : Nat} {F : Nat → Value} (h : Fill w g n F k wr) (hg : g < wr.heap.size) (hb : Below wr.heap.size wr w2) : Fill w g n F k w2 := by
  obtain ⟨h1, h2, h3, h4, h5⟩ := h
  refine ⟨fun j hj => ?_, fun j hj => ?_, fun j => ?_, bel h4 hb, h5⟩
  · rw [hb.cell (p := ⟨g, j, none⟩) hg]; exact h1 j hj
  · rw [hb.cell (p := ⟨g, j, none⟩) hg]; exact h2 j hj
  · rw [hb.frozen (p := ⟨g, j, none⟩) hg]; exact h3 j
theorem Fill.drew {w wr : World} {g n k : Nat} {F : Nat → Value} (h : Fill w g n F k wr) (q : Nat) : Fill w g n F k (wr.drewN q) :=
  ⟨h.1, h.2.1, h.2.2.1, bel_drew h.2.2.2.1 q, h.2.2.2.2⟩
theorem Fill.drew1 {w wr : World} {g n k : Nat} {F : Nat → Value} (h : Fill w g n F k wr) : Fill w g n F k wr.drew :=
  ⟨h.1, h.2.1, h.2.2.1, h.2.2.2.1.drew, h.2.2.2.2⟩
theorem Fill.lt {w wr : World} {g n k : Nat} {F : Nat → Value} (h : Fill w g n F k wr) (hn : 0 < n) : g < wr.heap.size := by
  obtain ⟨v, hv⟩ := h.2.1 0 hn
  exact World.block_lt_of_cell? _ _ hv
theorem Fill.ints {w wr : World} {g n : Nat} {F : Nat → Value} {l : List Int} (h : Fill w g n F n wr) (hl : l.length = n) (hF : ∀ j, j < n → F j = .int .i64 (l.getD j 0)) : IntsIn wr (some ⟨g, 0, none⟩) l :=
  Or.inr ⟨g, 0, rfl, fun j hj => by rw [Nat.zero_add, h.1 j (by omega), hF j (by omega)]⟩

theorem ints_any (p q : Option Addr) (n m c d : Nat) (a b : List Int) (w : World) (ha : a.length = n) (hb : b.length = m) (hn : n ≤ 1048576) (h1 : IntsIn w p a) (h2 : IntsIn w q b) :
    Calls Tryz.prog 19 #[.slice p n c, .slice q m d] w fun e w' => e = .returned (.bool (a == b)) ∧ Below w.heap.size w w' := by
  by_cases hnm : n = m
  · subst hnm
    have HA : Hid (a.length = n) := ha
    have HB : Hid (b.length = n) := hb
    by_cases h0 : n = 0
    · have HE : Hid ((a == b) = true) := by
        unfold Hid
        rw [List.eq_nil_of_length_eq_zero (ha.trans h0), List.eq_nil_of_length_eq_zero (hb.trans h0)]; rfl
      subst h0
      clear ha hb h1 h2
      go_enter Tryz.func19, Tryz.ntmps19
      go_wp2
      go_loop [5] (fun v => v = .int .i64 0) (fun _ => 0)
      case atStart => rfl
      case round =>
        obtain rfl := hrel
        go_wp2
        go_ret
        exact ⟨by rw [HE.out]; rfl, Below.refl _ _⟩
    · obtain ⟨b1, o1, rfl, c1⟩ := h1.some (by rintro rfl; exact h0 ha.symm)
      obtain ⟨b2, o2, rfl, c2⟩ := h2.some (by rintro rfl; exact h0 hb.symm)
      have C1 : Hid (∀ j, j < n → w.cell? ⟨b1, o1 + j, none⟩ = some (.int .i64 (a.getD j 0))) := fun j hj => c1 j (by omega)
      have C2 : Hid (∀ j, j < n → w.cell? ⟨b2, o2 + j, none⟩ = some (.int .i64 (b.getD j 0))) := fun j hj => c2 j (by omega)
      clear ha hb h1 h2 c1 c2 h0
      go_enter Tryz.func19, Tryz.ntmps19
      go_wp2
      go_loopw [5] (fun v wr => ∃ k : Nat, k ≤ n ∧ v = .int .i64 k ∧ Hid (∀ j, j < k → a.getD j 0 = b.getD j 0) ∧ Below w.heap.size w wr) (fun v _ => n - (intOf v).toNat)
      case atStart => exact ⟨0, by omega, rfl, fun j hj => absurd hj (by omega), Below.refl _ _⟩
      case round =>
        obtain ⟨k, hk, rfl, HK, hbel⟩ := hrel
        have HBE : Hid (Below w.heap.size w wr) := hbel
        clear hbel
        by_cases hlt : k < n
        · have hltz : (k : Int) < n := by omega
          have e1 := C1.out k hlt
          have e2 := C2.out k hlt
          obtain ⟨x, hx⟩ : ∃ x, x = a.getD k 0 := ⟨_, rfl⟩
          obtain ⟨y, hy⟩ : ∃ y, y = b.getD k 0 := ⟨_, rfl⟩
          rw [← hx] at e1
          rw [← hy] at e2
          have HX : Hid (x = a.getD k 0) := hx
          have HY : Hid (y = b.getD k 0) := hy
          clear hx hy
          have d1 : wr.cell? ⟨b1, o1 + k, none⟩ = some (.int .i64 x) := (HBE.out.cell (World.block_lt_of_cell? _ _ e1)).trans e1
          have d2 : wr.cell? ⟨b2, o2 + k, none⟩ = some (.int .i64 y) := (HBE.out.cell (World.block_lt_of_cell? _ _ e2)).trans e2
          clear e1 e2
          cases hxy : (x != y)
          case false =>
            go_wp2
            go_quiet (fail)
            go_wp2
            go_roundw
            case rel => exact ⟨k + 1, by omega, by go_num, fun j hj => by
              rcases Nat.lt_succ_iff_lt_or_eq.1 hj with h | rfl
              · exact HK.out j h
              · rw [← HX.out, ← HY.out]; simpa using hxy, bel_drew HBE.out _⟩
            case measure => simp [intOf]; omega
          case true =>
            go_wp2
            go_quiet (fail)
            go_wp2
            go_ret
            refine ⟨?_, bel_drew HBE.out _⟩
            refine ret_bool ?_
            cases he : (a == b)
            · rfl
            · have : a = b := by simpa using he
              rw [HX.out, HY.out, this] at hxy
              simp at hxy
        · obtain rfl : k = n := by omega
          go_wp2
          go_ret
          refine ⟨?_, HBE.out⟩
          refine ret_bool ?_
          have : a = b := by
            apply List.ext_getElem?
            intro i
            by_cases hi : i < k
            · have := HK.out i hi
              rw [List.getD_eq_getElem?_getD, List.getD_eq_getElem?_getD, List.getElem?_eq_getElem (by rw [HA.out]; exact hi), List.getElem?_eq_getElem (by rw [HB.out]; exact hi)] at this
              rw [List.getElem?_eq_getElem (by rw [HA.out]; exact hi), List.getElem?_eq_getElem (by rw [HB.out]; exact hi)]
              simpa using this
            · rw [List.getElem?_eq_none (by rw [HA.out]; omega), List.getElem?_eq_none (by rw [HB.out]; omega)]
          rw [this]; simp
  · have hnm' : ((n : Int) == (m : Int)) = false := by simp; omega
    have HE : Hid ((a == b) = false) := by
      unfold Hid
      cases he : (a == b)
      · rfl
      · have : a = b := by simpa using he
        subst this; omega
    clear ha hb h1 h2
    go_enter Tryz.func19, Tryz.ntmps19
    go_wp2
    go_ret
    exact ⟨by rw [HE.out]; rfl, Below.refl _ _⟩

theorem max_if (x y : Int) : (if x < y then y else x) = max x y := by
  rw [Int.max_def]; split <;> split <;> omega

end Dg
end Go.Proofs.YtadjhmfcggnfoaaGreat
