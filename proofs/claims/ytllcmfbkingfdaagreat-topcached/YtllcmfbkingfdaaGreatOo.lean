/- Ops that came in: they lie in memory. -/
import Derived.Test.YtllcmfbkingfdaaGreatJ7
import Derived.Deep.Strs
import Derived.ChangeSame
import Derived.ChangeOld
import Derived.Carry
namespace Go.Proofs.YtllcmfbkingfdaaGreat
namespace Oo
set_option linter.unusedVariables false
open Go.ChangeShapes Go.WideShapes Go.ChangeAt Go.RowKit Cm Ka Kb Na Om Oa Oz

theorem laidOut : laidOutB Tryz.prog = true := by kernel_rfl
theorem cellsO : Tryz.prog.cellsOf 35 = 6 := by kernel_rfl
theorem cellsD : Tryz.prog.cellsOf 32 = 2 := by kernel_rfl
theorem cellsL : Tryz.prog.cellsOf 33 = 1 := by kernel_rfl
theorem cellsS : Tryz.prog.cellsOf 9 = 1 := by kernel_rfl
theorem cellsI : Tryz.prog.cellsOf 3 = 1 := by kernel_rfl

theorem trod_struct5 {H : Type} {enc : TypeId × Value → H} {W : World} {base : Nat} {spare : Nat → Bool} {held : Bool} {t : TypeId} {f0 f1 f2 f3 f4 : Field} {fuel : Nat} {cs : List Value} {x : DataW H × List MemPlace} (ht : Tryz.prog.underlying t = some (.struct #[f0, f1, f2, f3, f4])) (h : DataW.trod enc Tryz.prog W base spare held fuel t cs = some x) :
    ∃ y0 y1 y2 y3 y4 n, cs.length = Tryz.prog.cellsOf t ∧ DataW.trod enc Tryz.prog W base spare held n f0.type ((cs.drop f0.offset).take (Tryz.prog.cellsOf f0.type)) = some y0 ∧
      DataW.trod enc Tryz.prog W base spare held n f1.type ((cs.drop f1.offset).take (Tryz.prog.cellsOf f1.type)) = some y1 ∧ DataW.trod enc Tryz.prog W base spare held n f2.type ((cs.drop f2.offset).take (Tryz.prog.cellsOf f2.type)) = some y2 ∧
      DataW.trod enc Tryz.prog W base spare held n f3.type ((cs.drop f3.offset).take (Tryz.prog.cellsOf f3.type)) = some y3 ∧ DataW.trod enc Tryz.prog W base spare held n f4.type ((cs.drop f4.offset).take (Tryz.prog.cellsOf f4.type)) = some y4 := by
  obtain ⟨xs, n, _, rfl, hl, hlen, hf⟩ := DataW.trod_struct ht h
  match xs, hlen with
  | [y0, y1, y2, y3, y4], _ => exact ⟨y0, y1, y2, y3, y4, n, hl, by simpa using hf 0 f0 rfl, by simpa using hf 1 f1 rfl, by simpa using hf 2 f2 rfl, by simpa using hf 3 f3 rfl, by simpa using hf 4 f4 rfl⟩

set_option maxRecDepth 100000 in
theorem open_dot {H : Type} {enc : TypeId × Value → H} {W : World} {base fuel : Nat} {spare : Nat → Bool} {held : Bool} {cs : List Value} {x : DataW H × List MemPlace} (h : DataW.trod enc Tryz.prog W base spare held fuel 32 cs = some x) :
    ∃ y : Dt, cs = [.int .i64 y.1, .int .i64 y.2] := by
  obtain ⟨y0, y1, n, _, hl, h0, h1⟩ := ChangeShapes.trod_struct2 Tryz.underlying32 h
  rw [cellsD] at hl
  match cs, hl with
  | [c0, c1], _ =>
    simp only [cellsI, List.drop_zero, List.drop_succ_cons, List.take_succ_cons, List.take_zero] at h0 h1
    obtain ⟨m, e0, _, _⟩ := DataW.trod_int Tryz.underlying3 h0
    obtain ⟨k, e1, _, _⟩ := DataW.trod_int Tryz.underlying3 h1
    simp only [List.cons.injEq, and_true] at e0 e1
    subst e0 e1
    exact ⟨(m, k), rfl⟩
set_option maxRecDepth 100000 in
theorem open_seen {H : Type} {enc : TypeId × Value → H} {W : World} {base fuel : Nat} {held : Bool} {v : Value} {x : DataW H × List MemPlace} (h : DataW.trod enc Tryz.prog W base (fun _ => true) held fuel 33 [v] = some x) :
    ∃ l, DtsAt W v l := by
  rcases Deep.open_slice Tryz.underlying33 h with ⟨hcs, _⟩ | ⟨a, len, cap, m, n, D, Pl, hcs, _, hl, hm, hmm, hx, hel⟩
  · simp only [List.cons.injEq, and_true] at hcs
    subst hcs
    exact ⟨[], DtsAt.nil W⟩
  · simp only [List.cons.injEq, and_true] at hcs
    subst hcs
    simp at hmm
    have each : ∀ i, i < len → ∃ y : Dt, W.cell? (a.add (i * 2)) = some (.int .i64 y.1) ∧ W.cell? (a.add (i * 2 + 1)) = some (.int .i64 y.2) := by
      intro i hi
      obtain ⟨cs', h1, h2⟩ := hel i (by omega)
      rw [cellsD] at h1
      obtain ⟨y, rfl⟩ := open_dot h2
      obtain ⟨_, _, hc⟩ := World.cells?_some h1
      refine ⟨y, ?_, ?_⟩
      · have := hc 0 (by omega); rw [Deep.add_add, Nat.add_zero] at this; exact this
      · have := hc 1 (by omega); rw [Deep.add_add] at this; exact this
    obtain ⟨X, hX⟩ := Deep.choose_lt (α := Dt) each
    have hlen : ((List.range len).map X).length = len := by simp
    refine ⟨(List.range len).map X, ⟨some a, cap, by rw [hlen], ?_, by rw [hlen]; exact hl, hm, fun h => by cases h⟩⟩
    · by_cases h0 : len = 0
      · left; rw [h0]; rfl
      · right
        obtain ⟨b, off, spot⟩ := a
        have hc0 := (hX 0 (by omega)).1
        have hspot : spot = none := by simpa [Addr.add] using World.cell?_spot hc0
        subst hspot
        refine ⟨b, off, rfl, fun j hj => ?_⟩
        rw [hlen] at hj
        have e : ((List.range len).map X).getD j noneD = X j := by
          rw [List.getD_eq_getElem?_getD, List.getElem?_map, List.getElem?_range hj]; rfl
        rw [e]
        obtain ⟨h1, h2⟩ := hX j hj
        rw [Addr.add_lit] at h1 h2
        exact ⟨h1, h2⟩
set_option maxRecDepth 100000 in
theorem open_opc {H : Type} {enc : TypeId × Value → H} {W : World} {base fuel : Nat} {held : Bool} {cs : List Value} {x : DataW H × List MemPlace} (h : DataW.trod enc Tryz.prog W base (fun _ => true) held fuel 35 cs = some x) :
    ∃ (y : Ox) (v : Value), cs = six y v ∧ DtsAt W v y.2.2.2.2 ∧ y.2.2.1.size ≤ maxLen := by
  obtain ⟨y0, y1, y2, y3, y4, n, hl, h0, h1, h2, h3, h4⟩ := trod_struct5 Tryz.underlying35 h
  rw [cellsO] at hl
  match cs, hl with
  | [c0, c1, c2, c3, c4, c5], _ =>
    simp only [cellsS, cellsD, cellsI, cellsL, List.drop_zero, List.drop_succ_cons, List.take_succ_cons, List.take_zero] at h0 h1 h2 h3 h4
    obtain ⟨d, e0⟩ := open_dot h0
    obtain ⟨t, e1, _, _⟩ := DataW.trod_int Tryz.underlying3 h1
    obtain ⟨s, e2, _, hs⟩ := DataW.trod_string Tryz.underlying9 h2
    obtain ⟨c, e3, _, _⟩ := DataW.trod_int Tryz.underlying3 h3
    obtain ⟨l, hd⟩ := open_seen h4
    simp only [List.cons.injEq, and_true] at e0 e1 e2 e3
    obtain ⟨e0, e0'⟩ := e0
    subst e0 e0' e1 e2 e3
    exact ⟨(d, t, s, c, l), c5, rfl, hd, hs⟩
/- an op by value -/
set_option maxRecDepth 100000 in
theorem open_op {H : Type} {enc : TypeId × Value → H} {W : World} {base : Nat} {v : Value} {d : DataW H} {ps : List MemPlace}
    (hv : Value.okWide Tryz.prog W .any base 35 v) (h : DataW.Trod enc Tryz.prog W 0 (fun _ => true) true 35 v d ps) :
    ∃ (y : Ox) (u : Value), v = opV y u ∧ DtsAt W u y.2.2.2.2 ∧ y.2.2.1.size ≤ maxLen := by
  obtain ⟨cs, rfl, hsz⟩ := okWide_struct Tryz.underlying35 hv
  obtain ⟨fuel, hf⟩ := h
  obtain ⟨y, u, e, hd, hs⟩ := open_opc hf
  refine ⟨y, u, ?_, hd, hs⟩
  have e2 : cs.toList = six y u := by simpa [Value.cells] using e
  have : cs = #[.int .i64 y.1.1, .int .i64 y.1.2, .int .i64 y.2.1, .string y.2.2.1, .int .i64 y.2.2.2.1, u] := by
    apply Array.ext'; rw [e2]; rfl
  rw [this]; rfl
set_option maxRecDepth 100000 in
theorem open_ops {H : Type} {enc : TypeId × Value → H} {W : World} {base : Nat} {v : Value} {d : DataW H} {ps : List MemPlace}
    (hv : Value.okWide Tryz.prog W .any base 22 v) (h : DataW.Trod enc Tryz.prog W 0 (fun _ => true) true 22 v d ps) :
    ∃ l, OpsAt W v l ∧ ∀ x ∈ l, x.2.2.1.size ≤ maxLen := by
  obtain ⟨a0, len0, cap0, rfl⟩ := okWide_slice Tryz.underlying22 hv
  obtain ⟨fuel, hf⟩ := h
  rcases Deep.open_slice Tryz.underlying22 hf with ⟨hcs, _⟩ | ⟨a, len, cap, m, n, D, Pl, hcs, _, hl, hm, hmm, hx, hel⟩
  · simp [Value.cells] at hcs
    obtain ⟨rfl, rfl, rfl⟩ := hcs
    exact ⟨[], OpsAt.nil W, by intro x hx; simp at hx⟩
  · simp [Value.cells] at hcs
    obtain ⟨rfl, rfl, rfl⟩ := hcs
    simp at hmm
    have each : ∀ i, i < len0 → ∃ y : Ox × Value, (W.cell? (a.add (i * 6)) = some (.int .i64 y.1.1.1) ∧ W.cell? (a.add (i * 6 + 1)) = some (.int .i64 y.1.1.2) ∧ W.cell? (a.add (i * 6 + 2)) = some (.int .i64 y.1.2.1) ∧ W.cell? (a.add (i * 6 + 3)) = some (.string y.1.2.2.1) ∧ W.cell? (a.add (i * 6 + 4)) = some (.int .i64 y.1.2.2.2.1) ∧ W.cell? (a.add (i * 6 + 5)) = some y.2) ∧ DtsAt W y.2 y.1.2.2.2.2 ∧ y.1.2.2.1.size ≤ maxLen := by
      intro i hi
      obtain ⟨cs', h1, h2⟩ := hel i (by omega)
      rw [cellsO] at h1
      obtain ⟨y, u, rfl, hd, hs⟩ := open_opc h2
      obtain ⟨_, _, hc⟩ := World.cells?_some h1
      refine ⟨(y, u), ⟨?_, ?_, ?_, ?_, ?_, ?_⟩, hd, hs⟩
      · have := hc 0 (by omega); rw [Deep.add_add, Nat.add_zero] at this; exact this
      · have := hc 1 (by omega); rw [Deep.add_add] at this; exact this
      · have := hc 2 (by omega); rw [Deep.add_add] at this; exact this
      · have := hc 3 (by omega); rw [Deep.add_add] at this; exact this
      · have := hc 4 (by omega); rw [Deep.add_add] at this; exact this
      · have := hc 5 (by omega); rw [Deep.add_add] at this; exact this
    obtain ⟨X, hX⟩ := Deep.choose_lt (α := Ox × Value) each
    have hlen : ((List.range len0).map fun i => (X i).1).length = len0 := by simp
    refine ⟨(List.range len0).map fun i => (X i).1, ⟨some a, cap0, by rw [hlen], ?_, by rw [hlen]; exact hl, hm, fun h => by cases h⟩, ?_⟩
    · by_cases h0 : len0 = 0
      · left; rw [h0]; rfl
      · right
        obtain ⟨b, off, spot⟩ := a
        have hc0 := (hX 0 (by omega)).1.1
        have hspot : spot = none := by simpa [Addr.add] using World.cell?_spot hc0
        subst hspot
        refine ⟨b, off, rfl, fun j hj => ?_⟩
        rw [hlen] at hj
        have e : ((List.range len0).map fun i => (X i).1).getD j oz = (X j).1 := by
          rw [List.getD_eq_getElem?_getD, List.getElem?_map, List.getElem?_range hj]; rfl
        rw [e]
        obtain ⟨⟨h1, h2, h3, h4, h5, h6⟩, hd, _⟩ := hX j hj
        rw [Addr.add_lit] at h1 h2 h3 h4 h5 h6
        exact ⟨(X j).2, ⟨h1, h2, h3, h4, h5, h6⟩, hd⟩
    · intro x hx
      obtain ⟨j, hj, rfl⟩ := List.mem_map.1 hx
      exact (hX j (List.mem_range.1 hj)).2.2

end Oo
end Go.Proofs.YtllcmfbkingfdaaGreat
