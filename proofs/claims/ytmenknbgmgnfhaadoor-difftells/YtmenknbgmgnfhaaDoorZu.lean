/- Edits that came in: they lie in memory, and no text among them is longer than what a machine can reach. (Drawn from Ek.) -/
import Derived.Test.YtmenknbgmgnfhaaDoorZd
import Derived.Deep.Strs
import Derived.Deep.Slices
import Derived.ChangeSame
import Derived.ChangeOld
import Derived.Carry
import Derived.SizedLaws
namespace Go.Proofs.YtmenknbgmgnfhaaDoor
namespace Zu
set_option linter.unusedVariables false
open Go.ChangeShapes Go.WideShapes Go.ChangeAt Go.RowKit Ka Kb Zd

theorem laidOut : laidOutB Tryd.prog = true := by kernel_rfl
theorem cellsF : Tryd.prog.cellsOf 43 = 3 := by kernel_rfl
theorem cellsS : Tryd.prog.cellsOf 9 = 1 := by kernel_rfl
theorem cellsI : Tryd.prog.cellsOf 3 = 1 := by kernel_rfl
theorem bytesF : Tryd.prog.bytesOf 43 = 32 := by kernel_rfl
theorem weights_all {H : Type} {P : Program} {e : TypeId} : ∀ {ds : List (DataW H)} {d : DataW H}, d ∈ ds → ∀ n ∈ d.weights P e, n ∈ DataW.weightsAll P e ds
  | d0 :: ds, d, hd, n, hn => by
    simp only [DataW.weightsAll, List.mem_append]
    rcases List.mem_cons.1 hd with rfl | h
    · exact Or.inl hn
    · exact Or.inr (weights_all h n hn)
set_option maxRecDepth 100000 in
theorem open_edit {H : Type} {enc : TypeId × Value → H} {W : World} {base fuel : Nat} {spare : Nat → Bool} {held : Bool} {cs : List Value} {x : DataW H × List MemPlace} (h : DataW.trod enc Tryd.prog W base spare held fuel 43 cs = some x) :
    ∃ y : Fr, cs = [.int .i64 y.1, .int .i64 y.2.1, .string y.2.2] ∧ y.2.2.size ∈ x.1.weights Tryd.prog 43 := by
  obtain ⟨y0, y1, y2, n, hx, hl, h0, h1, h2⟩ := Deep.trod_struct3 Tryd.underlying43 h
  rw [cellsF] at hl
  match cs, hl with
  | [c0, c1, c2], _ =>
    simp only [cellsS, cellsI, List.drop_zero, List.drop_succ_cons, List.take_succ_cons, List.take_zero] at h0 h1 h2
    obtain ⟨m0, e0, f0, _⟩ := DataW.trod_int Tryd.underlying3 h0
    obtain ⟨m, e1, f1, _⟩ := DataW.trod_int Tryd.underlying3 h1
    obtain ⟨s, e2, f2, hs⟩ := DataW.trod_string Tryd.underlying9 h2
    simp only [List.cons.injEq, and_true] at e0 e1 e2
    subst e0 e1 e2
    refine ⟨(m0, m, s), rfl, ?_⟩
    rw [hx, f0, f1, f2]
    simp [DataW.weights, Tryd.underlying43, DataW.weightsEach]
set_option maxRecDepth 100000 in
theorem open_eds {H : Type} {enc : TypeId × Value → H} {W : World} {base : Nat} {v : Value} {d : DataW H} {ps : List MemPlace}
    (hv : Value.okWide Tryd.prog W .any base 22 v) (h : DataW.Trod enc Tryd.prog W 0 (fun _ => true) true 22 v d ps) (hr : ∀ n ∈ d.weights Tryd.prog 22, n ≤ reachBytes) : ∃ l, FrsJ (fun g => g < W.heap.size) W v l ∧ l.length ≤ 140737488355328 ∧ ∀ x ∈ l, x.2.2.size ≤ 140737488355328 := by
  obtain ⟨a0, len0, cap0, rfl⟩ := okWide_slice Tryd.underlying22 hv
  obtain ⟨fuel, hf⟩ := h
  have hrb := reachBytes_lt
  rcases Deep.open_slice Tryd.underlying22 hf with ⟨hcs, _⟩ | ⟨a, len, cap, m, n, D, Pl, hcs, _, hl, hm, hmm, hx, hel⟩
  · simp [Value.cells] at hcs
    obtain ⟨rfl, rfl, rfl⟩ := hcs
    exact ⟨[], FrsJ.nil _ _, Nat.zero_le _, by intro x hx; cases hx⟩
  · simp [Value.cells] at hcs
    obtain ⟨rfl, rfl, rfl⟩ := hcs
    simp at hmm
    have hx1 : d = .slice ((List.range len0).map D) ((List.range (m - len0)).map fun j => D (len0 + j)) := by
      have := congrArg Prod.fst hx
      simpa using this
    have hw1 : ∀ i, i < len0 → ∀ k ∈ (D i).weights Tryd.prog 43, k ≤ reachBytes := by
      intro i hi k hk
      refine hr k ?_
      rw [hx1]
      simp only [DataW.weights, Tryd.underlying22]
      refine List.mem_cons_of_mem _ (List.mem_append_left _ ?_)
      exact weights_all (List.mem_map.2 ⟨i, List.mem_range.2 hi, rfl⟩) k hk
    have hw0 : len0 ≤ 140737488355328 := by
      have h9 := hr ((((List.range len0).map D).length + ((List.range (m - len0)).map fun j => D (len0 + j)).length) * Tryd.prog.bytesOf 43) (by
        rw [hx1]
        simp only [DataW.weights, Tryd.underlying22]
        exact List.mem_cons_self ..)
      rw [bytesF] at h9
      simp at h9
      omega
    have each : ∀ i, i < len0 → ∃ y : Fr, (W.cell? (a.add (i * 3)) = some (.int .i64 y.1) ∧ W.cell? (a.add (i * 3 + 1)) = some (.int .i64 y.2.1) ∧ W.cell? (a.add (i * 3 + 2)) = some (.string y.2.2)) ∧ y.2.2.size ≤ 140737488355328 := by
      intro i hi
      obtain ⟨cs', h1, h2⟩ := hel i (by omega)
      rw [cellsF] at h1
      obtain ⟨y, rfl, hs⟩ := open_edit h2
      have h9 := hw1 i hi _ hs
      obtain ⟨_, _, hc⟩ := World.cells?_some h1
      refine ⟨y, ⟨?_, ?_, ?_⟩, by omega⟩
      · have := hc 0 (by omega); rw [Deep.add_add, Nat.add_zero] at this; exact this
      · have := hc 1 (by omega); rw [Deep.add_add] at this; exact this
      · have := hc 2 (by omega); rw [Deep.add_add] at this; exact this
    obtain ⟨X, hX⟩ := Deep.choose_lt (α := Fr) each
    have hlen : ((List.range len0).map X).length = len0 := by simp
    refine ⟨(List.range len0).map X, ⟨some a, cap0, by rw [hlen], ?_, by rw [hlen]; exact hl, hm, fun h => by cases h⟩, by rw [hlen]; exact hw0, ?_⟩
    · by_cases h0 : len0 = 0
      · left; rw [h0]; rfl
      · right
        obtain ⟨b, off, spot⟩ := a
        have hc0 := (hX 0 (by omega)).1.1
        have hspot : spot = none := by simpa [Addr.add] using World.cell?_spot hc0
        subst hspot
        refine ⟨b, off, rfl, ?_, fun j hj => ?_⟩
        · have := World.block_lt_of_cell? _ _ hc0
          simpa [Addr.add] using this
        · rw [hlen] at hj
          have e : ((List.range len0).map X).getD j fz = X j := by
            rw [List.getD_eq_getElem?_getD, List.getElem?_map, List.getElem?_range hj]; rfl
          rw [e]
          obtain ⟨⟨h1, h2, h3⟩, _⟩ := hX j hj
          rw [Addr.add_lit] at h1 h2 h3
          exact ⟨h1, h2, h3⟩
    · intro x hx
      obtain ⟨j, hj, rfl⟩ := List.mem_map.1 hx
      exact (hX j (List.mem_range.1 hj)).2

end Zu
end Go.Proofs.YtmenknbgmgnfhaaDoor
