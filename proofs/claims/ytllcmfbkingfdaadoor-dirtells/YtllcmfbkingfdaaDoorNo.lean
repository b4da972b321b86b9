/- Marks and dots that came in: they lie in memory. -/
import Derived.Test.YtllcmfbkingfdaaDoorJ4
import Derived.Deep.Strs
import Derived.ChangeSame
import Derived.ChangeOld
import Derived.Carry
namespace Go.Proofs.YtllcmfbkingfdaaDoor
namespace No
set_option linter.unusedVariables false
open Go.ChangeShapes Go.WideShapes Go.ChangeAt Go.RowKit Cm Ka Kb Na

theorem laidOut : laidOutB Tryd.prog = true := by kernel_rfl
theorem cellsM : Tryd.prog.cellsOf 71 = 3 := by kernel_rfl
theorem cellsD : Tryd.prog.cellsOf 69 = 2 := by kernel_rfl
theorem cellsS : Tryd.prog.cellsOf 9 = 1 := by kernel_rfl
theorem cellsI : Tryd.prog.cellsOf 3 = 1 := by kernel_rfl

set_option maxRecDepth 100000 in
theorem open_dot {H : Type} {enc : TypeId × Value → H} {W : World} {base fuel : Nat} {spare : Nat → Bool} {held : Bool} {cs : List Value} {x : DataW H × List MemPlace} (h : DataW.trod enc Tryd.prog W base spare held fuel 69 cs = some x) :
    ∃ y : Dt, cs = [.int .i64 y.1, .int .i64 y.2] := by
  obtain ⟨y0, y1, n, _, hl, h0, h1⟩ := ChangeShapes.trod_struct2 Tryd.underlying69 h
  rw [cellsD] at hl
  match cs, hl with
  | [c0, c1], _ =>
    simp only [cellsI, List.drop_zero, List.drop_succ_cons, List.take_succ_cons, List.take_zero] at h0 h1
    obtain ⟨m, e0, _, _⟩ := DataW.trod_int Tryd.underlying3 h0
    obtain ⟨k, e1, _, _⟩ := DataW.trod_int Tryd.underlying3 h1
    simp only [List.cons.injEq, and_true] at e0 e1
    subst e0 e1
    exact ⟨(m, k), rfl⟩
set_option maxRecDepth 100000 in
theorem open_mark {H : Type} {enc : TypeId × Value → H} {W : World} {base fuel : Nat} {spare : Nat → Bool} {held : Bool} {cs : List Value} {x : DataW H × List MemPlace} (h : DataW.trod enc Tryd.prog W base spare held fuel 71 cs = some x) :
    ∃ y : Mk, cs = [.string y.1, .int .i64 y.2.1, .int .i64 y.2.2] ∧ y.1.size ≤ maxLen := by
  obtain ⟨y0, y1, n, _, hl, h0, h1⟩ := ChangeShapes.trod_struct2 Tryd.underlying71 h
  rw [cellsM] at hl
  match cs, hl with
  | [c0, c1, c2], _ =>
    simp only [cellsS, cellsD, List.drop_zero, List.drop_succ_cons, List.take_succ_cons, List.take_zero] at h0 h1
    obtain ⟨s, e0, _, hs⟩ := DataW.trod_string Tryd.underlying9 h0
    obtain ⟨y, e1⟩ := open_dot h1
    simp only [List.cons.injEq, and_true] at e0 e1
    obtain ⟨e1, e2⟩ := e1
    subst e0 e1 e2
    exact ⟨(s, y), rfl, hs⟩
/- a mark by value -/
set_option maxRecDepth 100000 in
theorem open_one {H : Type} {enc : TypeId × Value → H} {W : World} {base : Nat} {v : Value} {d : DataW H} {ps : List MemPlace}
    (hv : Value.okWide Tryd.prog W .any base 71 v) (h : DataW.Trod enc Tryd.prog W 0 (fun _ => true) true 71 v d ps) :
    ∃ (s : ByteArray) (a b : Int), v = .agg #[.string s, .int .i64 a, .int .i64 b] ∧ s.size ≤ maxLen := by
  obtain ⟨cs, rfl, hsz⟩ := okWide_struct Tryd.underlying71 hv
  obtain ⟨fuel, hf⟩ := h
  obtain ⟨⟨s, a, b⟩, e, hs⟩ := open_mark hf
  refine ⟨s, a, b, ?_, hs⟩
  have e2 : cs.toList = [.string s, .int .i64 a, .int .i64 b] := by simpa [Value.cells] using e
  have : cs = #[.string s, .int .i64 a, .int .i64 b] := by
    apply Array.ext'; rw [e2]
  rw [this]

set_option maxRecDepth 100000 in
theorem open_marks {H : Type} {enc : TypeId × Value → H} {W : World} {base : Nat} {v : Value} {d : DataW H} {ps : List MemPlace}
    (hv : Value.okWide Tryd.prog W .any base 35 v) (h : DataW.Trod enc Tryd.prog W 0 (fun _ => true) true 35 v d ps) :
    ∃ l, MksAt W v l ∧ ∀ x ∈ l, x.1.size ≤ maxLen := by
  obtain ⟨a0, len0, cap0, rfl⟩ := okWide_slice Tryd.underlying35 hv
  obtain ⟨fuel, hf⟩ := h
  rcases Deep.open_slice Tryd.underlying35 hf with ⟨hcs, _⟩ | ⟨a, len, cap, m, n, D, Pl, hcs, _, hl, hm, hmm, hx, hel⟩
  · simp [Value.cells] at hcs
    obtain ⟨rfl, rfl, rfl⟩ := hcs
    exact ⟨[], MksAt.nil W, by intro x hx; simp at hx⟩
  · simp [Value.cells] at hcs
    obtain ⟨rfl, rfl, rfl⟩ := hcs
    simp at hmm
    have each : ∀ i, i < len0 → ∃ y : Mk, (W.cell? (a.add (i * 3)) = some (.string y.1) ∧ W.cell? (a.add (i * 3 + 1)) = some (.int .i64 y.2.1) ∧ W.cell? (a.add (i * 3 + 2)) = some (.int .i64 y.2.2)) ∧ y.1.size ≤ maxLen := by
      intro i hi
      obtain ⟨cs', h1, h2⟩ := hel i (by omega)
      rw [cellsM] at h1
      obtain ⟨y, rfl, hs⟩ := open_mark h2
      obtain ⟨_, _, hc⟩ := World.cells?_some h1
      refine ⟨y, ⟨?_, ?_, ?_⟩, hs⟩
      · have := hc 0 (by omega); rw [Deep.add_add, Nat.add_zero] at this; exact this
      · have := hc 1 (by omega); rw [Deep.add_add] at this; exact this
      · have := hc 2 (by omega); rw [Deep.add_add] at this; exact this
    obtain ⟨X, hX⟩ := Deep.choose_lt (α := Mk) each
    have hlen : ((List.range len0).map X).length = len0 := by simp
    refine ⟨(List.range len0).map X, ⟨some a, cap0, by rw [hlen], ?_, by rw [hlen]; exact hl, hm, fun h => by cases h⟩, ?_⟩
    · by_cases h0 : len0 = 0
      · left; rw [h0]; rfl
      · right
        obtain ⟨b, off, spot⟩ := a
        have hc0 := (hX 0 (by omega)).1.1
        have hspot : spot = none := by simpa [Addr.add] using World.cell?_spot hc0
        subst hspot
        refine ⟨b, off, rfl, fun j hj => ?_⟩
        rw [hlen] at hj
        have e : ((List.range len0).map X).getD j none1 = X j := by
          rw [List.getD_eq_getElem?_getD, List.getElem?_map, List.getElem?_range hj]; rfl
        rw [e]
        obtain ⟨⟨h1, h2, h3⟩, _⟩ := hX j hj
        rw [Addr.add_lit] at h1 h2 h3
        exact ⟨h1, h2, h3⟩
    · intro x hx
      obtain ⟨j, hj, rfl⟩ := List.mem_map.1 hx
      exact (hX j (List.mem_range.1 hj)).2


end No
end Go.Proofs.YtllcmfbkingfdaaDoor
