/- A book that came in: its leafs lie in memory. -/
import Derived.Test.YtaefoieoachdfaaLj
import Derived.Deep.Strs
import Derived.ChangeOld
import Derived.Carry
namespace Go.Proofs.Ytaefoieoachdfaa
namespace Lo
set_option linter.unusedVariables false
open Go.ChangeShapes Go.WideShapes Go.ChangeAt Go.RowKit Bm Ka Kb La Lb Lc Lj

theorem laidOut : laidOutB Try.prog = true := by kernel_rfl
theorem cells3 : Try.prog.cellsOf 28 = 3 := by kernel_rfl
theorem cellsS : Try.prog.cellsOf 9 = 1 := by kernel_rfl
theorem cellsI : Try.prog.cellsOf 3 = 1 := by kernel_rfl
theorem cellsB : Try.prog.cellsOf 4 = 1 := by kernel_rfl

set_option maxRecDepth 100000 in
theorem open_leaf {H : Type} {enc : TypeId × Value → H} {W : World} {base fuel : Nat} {spare : Nat → Bool} {held : Bool} {cs : List Value} {x : DataW H × List MemPlace} (h : DataW.trod enc Try.prog W base spare held fuel 28 cs = some x) :
    ∃ y : Leaf, cs = [.string y.1, .int .i64 y.2.1, .bool y.2.2] ∧ y.1.size ≤ maxLen := by
  obtain ⟨y0, y1, y2, n, _, hl, h0, h1, h2⟩ := Deep.trod_struct3 Try.underlying28 h
  rw [cells3] at hl
  match cs, hl with
  | [c0, c1, c2], _ =>
    simp only [cellsS, cellsI, cellsB, List.drop_zero, List.drop_succ_cons, List.take_succ_cons, List.take_zero] at h0 h1 h2
    obtain ⟨s, e0, _, hs⟩ := DataW.trod_string Try.underlying9 h0
    obtain ⟨m, e1, _, _⟩ := DataW.trod_int Try.underlying3 h1
    obtain ⟨b, e2, _⟩ := DataW.trod_bool Try.underlying4 h2
    simp only [List.cons.injEq, and_true] at e0 e1 e2
    subst e0 e1 e2
    exact ⟨(s, m, b), rfl, hs⟩

set_option maxRecDepth 100000 in
theorem open_book {H : Type} {enc : TypeId × Value → H} {W : World} {base : Nat} {v : Value} {d : DataW H} {ps : List MemPlace}
    (hv : Value.okWide Try.prog W .any base 22 v) (h : DataW.Trod enc Try.prog W 0 (fun _ => true) true 22 v d ps) :
    ∃ l, BookAt W v l ∧ ∀ x ∈ l, x.1.size ≤ maxLen := by
  obtain ⟨a0, len0, cap0, rfl⟩ := okWide_slice Try.underlying22 hv
  obtain ⟨fuel, hf⟩ := h
  rcases Deep.open_slice Try.underlying22 hf with ⟨hcs, _⟩ | ⟨a, len, cap, m, n, D, Pl, hcs, _, hl, hm, hmm, hx, hel⟩
  · simp [Value.cells] at hcs
    obtain ⟨rfl, rfl, rfl⟩ := hcs
    exact ⟨[], BookAt.nil W, by intro x hx; simp at hx⟩
  · simp [Value.cells] at hcs
    obtain ⟨rfl, rfl, rfl⟩ := hcs
    simp at hmm
    have each : ∀ i, i < len0 → ∃ y : Leaf, (W.cell? (a.add (i * 3)) = some (.string y.1) ∧ W.cell? (a.add (i * 3 + 1)) = some (.int .i64 y.2.1) ∧ W.cell? (a.add (i * 3 + 2)) = some (.bool y.2.2)) ∧ y.1.size ≤ maxLen := by
      intro i hi
      obtain ⟨cs', h1, h2⟩ := hel i (by omega)
      rw [cells3] at h1
      obtain ⟨y, rfl, hs⟩ := open_leaf h2
      obtain ⟨_, _, hc⟩ := World.cells?_some h1
      refine ⟨y, ⟨?_, ?_, ?_⟩, hs⟩
      · have := hc 0 (by omega); rw [Deep.add_add, Nat.add_zero] at this; exact this
      · have := hc 1 (by omega); rw [Deep.add_add] at this; exact this
      · have := hc 2 (by omega); rw [Deep.add_add] at this; exact this
    obtain ⟨X, hX⟩ := Deep.choose_lt (α := Leaf) each
    have hlen : ((List.range len0).map X).length = len0 := by simp
    refine ⟨(List.range len0).map X, ⟨some a, cap0, by rw [hlen], ?_, by rw [hlen]; exact hl, hm, fun h => by cases h⟩, ?_⟩
    · by_cases h0 : len0 = 0
      · left; rw [h0]; rfl
      · right
        obtain ⟨b, off, spot⟩ := a
        have hc0 := (hX 0 (by omega)).1.1
        have hspot : spot = none := by simpa [Addr.add] using World.cell?_spot hc0
        subst hspot
        refine ⟨b, off, rfl, fun j hj => ?_⟩
        rw [hlen] at hj
        have e : ((List.range len0).map X).getD j none0 = X j := by
          rw [List.getD_eq_getElem?_getD, List.getElem?_map, List.getElem?_range hj]; rfl
        rw [e]
        obtain ⟨⟨h1, h2, h3⟩, _⟩ := hX j hj
        rw [Addr.add_lit] at h1 h2 h3
        exact ⟨h1, h2, h3⟩
    · intro x hx
      obtain ⟨j, hj, rfl⟩ := List.mem_map.1 hx
      exact (hX j (List.mem_range.1 hj)).2

end Lo
end Go.Proofs.Ytaefoieoachdfaa
