/- Events that came in: they lie in memory. -/
import Derived.Test.YthalakfphecflaaGreatDoorHd
import Derived.Test.YthalakfphecflaaGreatDoorOo
import Derived.Test.YthalakfphecflaaGreatDoorJ10
namespace Go.Proofs.YthalakfphecflaaGreatDoor
namespace Hv
set_option linter.unusedVariables false
open Go.ChangeShapes Go.WideShapes Go.ChangeAt Go.RowKit Cm Ka Kb Na Om Oa Oz Oo Ic Hc Hd

/- texts -/
set_option maxRecDepth 100000 in
theorem open_txd {H : Type} {enc : TypeId × Value → H} {W : World} {base : Nat} {v : Value} {d : DataW H} {ps : List MemPlace}
    (hv : Value.okWide Tryz.prog W .any base 35 v) (h : DataW.Trod enc Tryz.prog W 0 (fun _ => true) true 35 v d ps) : ∃ p c l, v = .slice p l.length c ∧ TxtsIn W p l ∧ ∀ s ∈ l, s.size ≤ maxLen := by
  obtain ⟨a0, len0, cap0, rfl⟩ := okWide_slice Tryz.underlying35 hv
  obtain ⟨fuel, hf⟩ := h
  rcases Deep.open_strs Tryz.underlying35 Tryz.underlying9 cellsS hf with ⟨hcs, _⟩ | ⟨a, len, cap, m, X, hcs, _, hl, hm, hmm, hx, hX⟩
  · simp [Value.cells] at hcs
    obtain ⟨rfl, rfl, rfl⟩ := hcs
    exact ⟨none, 0, [], rfl, Or.inl rfl, by intro d hd; cases hd⟩
  · simp [Value.cells] at hcs
    obtain ⟨rfl, rfl, rfl⟩ := hcs
    simp at hmm
    have hlen : ((List.range len0).map X).length = len0 := by simp
    refine ⟨some a, cap0, (List.range len0).map X, by rw [hlen], ?_, ?_⟩
    · by_cases h0 : len0 = 0
      · left; rw [h0]; rfl
      · right
        obtain ⟨b, off, spot⟩ := a
        have hc0 := (hX 0 (by omega)).1
        have hspot : spot = none := by simpa [Addr.add] using World.cell?_spot hc0
        subst hspot
        refine ⟨b, off, rfl, fun j hj => ?_⟩
        rw [hlen] at hj
        have e : ((List.range len0).map X).getD j eT = X j := by
          rw [List.getD_eq_getElem?_getD, List.getElem?_map, List.getElem?_range hj]; rfl
        rw [e]
        have h1 := (hX j (by omega)).1
        rw [Addr.add_lit] at h1
        exact h1
    · intro x hx
      obtain ⟨j, hj, rfl⟩ := List.mem_map.1 hx
      exact (hX j (by have := List.mem_range.1 hj; omega)).2

end Hv
end Go.Proofs.YthalakfphecflaaGreatDoor
