/- What dot.checkWith, dot.Has and slices.Clone answer. -/
import Derived.Test.YtllcmfbkingfdaaGreatDoorDb
import Derived.Maps.AppendAt
namespace Go.Proofs.YtllcmfbkingfdaaGreatDoor
namespace Dc
set_option linter.unusedVariables false
open Go.ChangeShapes Go.WideShapes Go.ChangeAt Go.RowKit Za Db

theorem check_any (who m : Int) (w : World) :
    Calls Tryz.prog 6 #[.agg #[.int .i64 who, .int .i64 m]] w fun e w' => e = .returned (errV (Dm.dotE who m)) ∧ Below w.heap.size w w' := by
  go_enter Tryz.func6, Tryz.ntmps6
  go_wp2
  all_goals
    go_ret
    refine ⟨?_, (Below.refl _ w).alloc (Nat.le_refl _) _⟩
    unfold Dm.dotE
    first
      | (rw [if_pos (by omega)]; rfl)
      | (rw [if_neg (by omega)]; rfl)

theorem with_any (p : Option Addr) (n c : Nat) (l : List Int) (who m : Int) (w : World) (hl : l.length = n) (h : IntsIn w p l) :
    Calls Tryz.prog 21 #[.slice p n c, .agg #[.int .i64 who, .int .i64 m]] w fun e w' => e = .returned (errV (Dm.withE l who m)) ∧ Below w.heap.size w w' := by
  have hb : Below w.heap.size w (w.alloc (.cells #[.int .i64 who, .int .i64 m] 24)) := (Below.refl _ w).alloc (Nat.le_refl _) _
  have C := vector_any p n c l _ hl (h.below hb)
  clear hl h
  by_cases h0 : Dm.vecE l = 0
  · rw [h0, errV_zero] at C
    have HE : Hid (Dm.withE l who m = Dm.dotE who m) := by unfold Hid Dm.withE; rw [if_pos h0]
    clear h0
    go_enter Tryz.func21, Tryz.ntmps21
    go_wp2_with (go_at_call 8; refine C.mono ?_; rintro e w' ⟨rfl, hw⟩; have hw2 := hw.symm; subst hw2; clear hw)
    refine (check_any who m _).mono ?_
    rintro e w' ⟨rfl, hb2⟩
    go_wp2_with fail
    go_ret
    exact ⟨by rw [HE.out]; rfl, bel hb hb2⟩
  · rw [errV_ne h0] at C
    have HE : Hid (errV (Dm.withE l who m) = .iface 47 (.int .i64 (Dm.vecE l))) := by unfold Hid Dm.withE; rw [if_neg h0, errV_ne h0]
    obtain ⟨k, hk⟩ : ∃ k, k = Dm.vecE l := ⟨_, rfl⟩
    rw [← hk] at C HE
    clear h0 hk
    go_enter Tryz.func21, Tryz.ntmps21
    go_wp2_with (go_at_call 8; refine C.mono ?_; rintro e w' ⟨rfl, hw⟩; have hw2 := hw.symm; subst hw2; clear hw)
    go_ret
    exact ⟨by rw [HE.out]; rfl, hb⟩

/- slices.Clone of a list that is not empty: the same ints, in a row of the call's own -/
theorem clone_any (b o n c : Nat) (l : List Int) (w : World) (hl : l.length = n) (hn : 0 < n) (hn2 : n ≤ 1048576) (hc : ∀ j, j < l.length → w.cell? ⟨b, o + j, none⟩ = some (.int .i64 (l.getD j 0))) :
    Calls Tryz.prog 22 #[.slice (some ⟨b, o, none⟩) n c] w fun e w' => ∃ g cap cur, e = .returned (.slice (some ⟨g, 0, none⟩) n cap) ∧ w.heap.size ≤ g ∧ w'.heap[g]? = some (.cells cur 3 (0, 0)) ∧ n ≤ cur.size ∧ cur.toList.take n = l.map (fun x => Value.int .i64 x) ∧ Below w.heap.size w w' := by
  obtain ⟨i0, hi, hz0, hz1, hz2⟩ := info_parts infoInt
  have HN : Hid (∀ j u, (l.map (fun x => Value.int .i64 x))[j]? = some u → (w.alloc (.cells #[] 3)).cell? ((⟨b, o, none⟩ : Addr).add j) = some u) := by
    intro j u hu
    rw [List.getElem?_map] at hu
    cases hx : l[j]? with
    | none => rw [hx] at hu; cases hu
    | some x =>
      rw [hx] at hu
      simp only [Option.map_some, Option.some.injEq] at hu
      subst hu
      have hj : j < l.length := (List.getElem?_eq_some_iff.1 hx).1
      have h1 := hc j hj
      rw [List.getD_eq_getElem?_getD, hx] at h1
      rw [Addr.add_lit, World.cell?_alloc_old _ _ _ (Nat.ne_of_lt (World.block_lt_of_cell? _ _ h1))]
      exact h1
  have HL : Hid (l.length = n) := hl
  have HO : Hid ((w.alloc (.cells #[] 3)).ownsRow w.heap.size 3 1 (.slice (some ⟨w.heap.size, 0, none⟩) 0 0) 0 []) :=
    ⟨rfl, Or.inr ⟨w.heap.size, 0, #[], rfl, Nat.le_refl _, heap_alloc_new w _, Nat.le_refl _, by unfold maxLen; omega, rfl, rfl⟩⟩
  have heq : ∀ (a : Addr) (n c : Nat) (w : World), Sem.run Tryz.prog (binOp .eql 22 (.slice (some a) n c) (.slice none 0 0)) w = .ok (.bool false) w := fun _ _ _ _ => by kernel_rfl
  clear hc hl
  go_enter Tryz.func22, Tryz.ntmps22
  go_wp2_with (at_builtin; refine wpList_append_own_at _ rfl (.tmp 5) (.tmp 6) 22 rfl w.heap.size 3 i0 (.int .i64 0) 1 8 Tryz.underlying22 hi hz0 hz1 hz2 rfl (by decide) (.slice (some ⟨w.heap.size, 0, none⟩) 0 0) 0 [] rfl HO.out ⟨b, o, none⟩ n c (l.map (fun x => Value.int .i64 x)) rfl (by rw [List.length_map, HL.out, Nat.mul_one]) HN.out (by intro u hu; obtain ⟨x, _, rfl⟩ := List.mem_map.1 hu; rfl) (by unfold maxLen; omega) (by omega) (by simp) ?_; intro v' w1 hown' hgrow _ hat; obtain ⟨e1, hown2⟩ := hown'; have HOW : Hid ((v' = .slice none 0 0 ∧ 0 + n = 0) ∨ ∃ g cap cur, v' = .slice (some ⟨g, 0, none⟩) (0 + n) cap ∧ w.heap.size ≤ g ∧ w1.heap[g]? = some (.cells cur 3 (0, 0)) ∧ 0 + n ≤ cap ∧ cap ≤ maxLen ∧ cur.size = cap * 1 ∧ cur.toList.take ((0 + n) * 1) = [] ++ l.map (fun x => Value.int .i64 x)) := hown2; have HGR : Hid (Below w.heap.size w w1) := ((Below.refl _ w).alloc (Nat.le_refl _) (.cells #[] 3)).grown hgrow (by simp) (by intro j hj; simp [Value.ownBlock] at hj; omega); clear hown2 hgrow hat e1)
  go_ret
  rcases HOW.out with ⟨_, h⟩ | ⟨g, cap, cur, rfl, h1, h2, h3, h4, h5, h6⟩
  · omega
  · refine ⟨g, cap, cur, by simp, h1, h2, by omega, by simpa using h6, HGR.out⟩

theorem row_cells {w : World} {g : Nat} {cur : Array Value} {t : TypeId} {l : List Int} (h : w.heap[g]? = some (.cells cur t (0, 0))) (h2 : cur.toList.take l.length = l.map (fun x => Value.int .i64 x)) :
    (∀ j, j < l.length → w.cell? ⟨g, 0 + j, none⟩ = some (.int .i64 (l.getD j 0))) ∧ ∀ j, w.frozen? ⟨g, j, none⟩ = false := by
  refine ⟨fun j hj => ?_, fun j => by simp [World.frozen?, h]⟩
  have e : (cur.toList.take l.length)[j]? = some (.int .i64 (l.getD j 0)) := by
    rw [h2, List.getElem?_map, List.getD_eq_getElem?_getD, List.getElem?_eq_getElem hj]; rfl
  rw [List.getElem?_take_of_lt hj] at e
  rw [Nat.zero_add]
  simp only [World.cell?, h]
  simpa using e

/- the same, by the cells -/
theorem clone_cells (b o n c : Nat) (l : List Int) (w : World) (hl : l.length = n) (hn : 0 < n) (hn2 : n ≤ 1048576) (hc : ∀ j, j < l.length → w.cell? ⟨b, o + j, none⟩ = some (.int .i64 (l.getD j 0))) :
    Calls Tryz.prog 22 #[.slice (some ⟨b, o, none⟩) n c] w fun e w' => ∃ g cap, e = .returned (.slice (some ⟨g, 0, none⟩) n cap) ∧ w.heap.size ≤ g ∧ (∀ j, j < l.length → w'.cell? ⟨g, 0 + j, none⟩ = some (.int .i64 (l.getD j 0))) ∧ (∀ j, w'.frozen? ⟨g, j, none⟩ = false) ∧ Below w.heap.size w w' := by
  refine (clone_any b o n c l w hl hn hn2 hc).mono ?_
  rintro e w' ⟨g, cap, cur, rfl, h1, h2, h3, h4, h5⟩
  rw [← hl] at h4
  exact ⟨g, cap, rfl, h1, (row_cells h2 h4).1, (row_cells h2 h4).2, h5⟩

end Dc
end Go.Proofs.YtllcmfbkingfdaaGreatDoor
