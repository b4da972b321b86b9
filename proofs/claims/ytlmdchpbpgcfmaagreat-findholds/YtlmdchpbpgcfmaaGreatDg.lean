/- What dot.checkBoth, dot.Merge and leafsame.Ints answer. -/
import Derived.Test.YtlmdchpbpgcfmaaGreatJ9
import Derived.OwnWalk
import Derived.Laws.OwnMore
import Derived.RegionTactic
import Derived.BigRegion
import Derived.Deep.QuietTactic
import Derived.BigQuiet
namespace Go.Proofs.YtlmdchpbpgcfmaaGreat
namespace Dg
set_option linter.unusedVariables false
open Go.ChangeShapes Go.WideShapes Go.ChangeAt Go.RowKit Za Db

/- a row of the call's own that is filled, one cell after the other -/
def Fill (w : World) (g n : Nat) (F : Nat → Value) (k : Nat) (wr : World) : Prop :=
  (∀ j, j < k → wr.cell? ⟨g, j, none⟩ = some (F j)) ∧ (∀ j, j < n → ∃ v, wr.cell? ⟨g, j, none⟩ = some v) ∧ (∀ j, wr.frozen? ⟨g, j, none⟩ = false) ∧ Below w.heap.size w wr ∧ w.heap.size ≤ g
theorem Fill.start {w w1 : World} {t : TypeId} {F : Nat → Value} {n cap : Nat} {g : Nat} {xs : List Value} (hg : w.heap.size ≤ g) (h : w1.ownsRow g t 1 (.slice (some ⟨g, 0, none⟩) n cap) n xs) (hb : Below w.heap.size w w1) : Fill w g n F 0 w1 := by
  refine ⟨fun j hj => absurd hj (by omega), ?_, ?_, hb, hg⟩
  · intro j hj
    rcases h.2 with ⟨e, _⟩ | ⟨g', cap', cur, e, _, h2, h3, h4, h5, h6⟩
    · cases e
    · injection e with e1
      injection e1 with e1
      injection e1 with e1
      subst e1
      refine ⟨cur[j]'(by omega), ?_⟩
      simp only [World.cell?, h2]
      simp [show j < cur.size by omega]
  · intro j
    rcases h.2 with ⟨e, _⟩ | ⟨g', cap', cur, e, _, h2, h3, h4, h5, h6⟩
    · cases e
    · injection e with e1
      injection e1 with e1
      injection e1 with e1
      subst e1
      simp [World.frozen?, h2]
theorem Fill.step {w wr : World} {g n k : Nat} {F : Nat → Value} (h : Fill w g n F k wr) (hk : k < n) (v : Value) (hv : v = F k) : Fill w g n F (k + 1) (wr.setCell ⟨g, k, none⟩ v) := by
  obtain ⟨h1, h2, h3, h4, h5⟩ := h
  refine ⟨fun j hj => ?_, fun j hj => ?_, fun j => ?_, h4.setCell (p := ⟨g, k, none⟩) h5 _, h5⟩
  · by_cases e : j = k
    · subst e
      obtain ⟨u, hu⟩ := h2 j hk
      rw [World.cell?_setCell_same _ _ _ hu, hv]
    · rw [World.cell?_setCell_other _ _ _ _ (by intro e2; injection e2; omega)]
      exact h1 j (by omega)
  · obtain ⟨u, hu⟩ := h2 j hj
    exact cell?_setCell_some hu
  · rw [World.frozen?_setCell]; exact h3 j
theorem Fill.below {w wr w2 : World} {g n k : Nat} {F : Nat → Value} (h : Fill w g n F k wr) (hg : g < wr.heap.size) (hb : Below wr.heap.size wr w2) : Fill w g n F k w2 := by
  obtain ⟨h1, h2, h3, h4, h5⟩ := h
  refine ⟨fun j hj => ?_, fun j hj => ?_, fun j => ?_, bel h4 hb, h5⟩
  · rw [hb.cell (p := ⟨g, j, none⟩) hg]; exact h1 j hj
  · rw [hb.cell (p := ⟨g, j, none⟩) hg]; exact h2 j hj
  · rw [hb.frozen (p := ⟨g, j, none⟩) hg]; exact h3 j
theorem Fill.drew {w wr : World} {g n k : Nat} {F : Nat → Value} (h : Fill w g n F k wr) (q : Nat) : Fill w g n F k (wr.drewN q) :=
  ⟨h.1, h.2.1, h.2.2.1, bel_drew h.2.2.2.1 q, h.2.2.2.2⟩
theorem Fill.drew1 {w wr : World} {g n k : Nat} {F : Nat → Value} (h : Fill w g n F k wr) : Fill w g n F k wr.drew :=
  ⟨h.1, h.2.1, h.2.2.1, h.2.2.2.1.drew, h.2.2.2.2⟩
theorem Fill.lt {w wr : World} {g n k : Nat} {F : Nat → Value} (h : Fill w g n F k wr) (hn : 0 < n) : g < wr.heap.size := by
  obtain ⟨v, hv⟩ := h.2.1 0 hn
  exact World.block_lt_of_cell? _ _ hv
theorem Fill.ints {w wr : World} {g n : Nat} {F : Nat → Value} {l : List Int} (h : Fill w g n F n wr) (hl : l.length = n) (hF : ∀ j, j < n → F j = .int .i64 (l.getD j 0)) : IntsIn wr (some ⟨g, 0, none⟩) l :=
  Or.inr ⟨g, 0, rfl, fun j hj => by rw [Nat.zero_add, h.1 j (by omega), hF j (by omega)]⟩

theorem max_if (x y : Int) : (if x < y then y else x) = max x y := by
  rw [Int.max_def]; split <;> split <;> omega

end Dg
end Go.Proofs.YtlmdchpbpgcfmaaGreat
