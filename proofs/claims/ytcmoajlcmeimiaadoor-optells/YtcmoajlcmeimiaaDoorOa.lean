/- Ops that lie in memory: six cells each, the last one what was seen. -/
import Derived.Test.YtcmoajlcmeimiaaDoorOm
import Derived.Test.YtcmoajlcmeimiaaDoorNa
namespace Go.Proofs.YtcmoajlcmeimiaaDoor
namespace Oa
set_option linter.unusedVariables false
open Go.ChangeShapes Go.WideShapes Go.ChangeAt Go.RowKit Cm Ka Kb Na Om
open La (bel bel_drew errV_zero errV_ne own_ge own_grow own_below)

def six (x : Ox) (v : Value) : List Value := [.int .i64 x.1.1, .int .i64 x.1.2, .int .i64 x.2.1, .string x.2.2.1, .int .i64 x.2.2.2.1, v]
def flatO (l : List (Ox × Value)) : List Value := l.flatMap fun y => six y.1 y.2
theorem flatO_append (a b : List (Ox × Value)) : flatO (a ++ b) = flatO a ++ flatO b := by unfold flatO; rw [List.flatMap_append]
theorem flatO_length : ∀ l : List (Ox × Value), (flatO l).length = l.length * 6
  | [] => rfl
  | x :: l => by
    have := flatO_length l
    unfold flatO at this ⊢
    rw [List.flatMap_cons, List.length_append, this]
    simp [six]; omega
theorem flatO_at : ∀ {l : List (Ox × Value)} {j : Nat} {y : Ox × Value}, l[j]? = some y → ∀ i u, (six y.1 y.2)[i]? = some u → (flatO l)[j * 6 + i]? = some u
  | [], j, y, h, i, u, hu => by simp at h
  | x :: l, 0, y, h, i, u, hu => by
    simp only [List.getElem?_cons_zero, Option.some.injEq] at h
    subst h
    have hi : i < (six x.1 x.2).length := (List.getElem?_eq_some_iff.1 hu).1
    unfold flatO
    rw [List.flatMap_cons, Nat.zero_mul, Nat.zero_add, List.getElem?_append_left hi]
    exact hu
  | x :: l, j + 1, y, h, i, u, hu => by
    have h2 : l[j]? = some y := by simpa using h
    have ih := flatO_at h2 i u hu
    have e : ∀ i, (flatO (x :: l))[i + 6]? = (flatO l)[i]? := fun i => by
      unfold flatO
      rw [List.flatMap_cons, List.getElem?_append_right (by simp [six])]
      simp [six]
    rw [show (j + 1) * 6 + i = j * 6 + i + 6 by omega, e]
    exact ih

/- op j of a row at b, o -/
def OAt (w : World) (b o j : Nat) (x : Ox) : Prop := ∃ v, (w.cell? ⟨b, o + j * 6, none⟩ = some (.int .i64 x.1.1) ∧ w.cell? ⟨b, o + j * 6 + 1, none⟩ = some (.int .i64 x.1.2) ∧ w.cell? ⟨b, o + j * 6 + 2, none⟩ = some (.int .i64 x.2.1) ∧ w.cell? ⟨b, o + j * 6 + 3, none⟩ = some (.string x.2.2.1) ∧ w.cell? ⟨b, o + j * 6 + 4, none⟩ = some (.int .i64 x.2.2.2.1) ∧ w.cell? ⟨b, o + j * 6 + 5, none⟩ = some v) ∧ DtsAt w v x.2.2.2.2
def OpsIn (w : World) (p : Option Addr) (l : List Ox) : Prop :=
  l = [] ∨ ∃ b o, p = some ⟨b, o, none⟩ ∧ ∀ j, j < l.length → OAt w b o j (l.getD j oz)
theorem OAt.lt {w : World} {b o j : Nat} {x : Ox} (h : OAt w b o j x) : b < w.heap.size := by
  obtain ⟨v, h, _⟩ := h
  exact World.block_lt_of_cell? _ ⟨b, o + j * 6, none⟩ h.1
theorem OAt.below {w w' : World} {b o j : Nat} {x : Ox} (h : OAt w b o j x) (hb : Below w.heap.size w w') : OAt w' b o j x := by
  have hB := h.lt
  obtain ⟨v, ⟨h0, h1, h2, h3, h4, h5⟩, hd⟩ := h
  exact ⟨v, ⟨(hb.cell (p := ⟨b, o + j * 6, none⟩) hB).trans h0, (hb.cell (p := ⟨b, o + j * 6 + 1, none⟩) hB).trans h1, (hb.cell (p := ⟨b, o + j * 6 + 2, none⟩) hB).trans h2, (hb.cell (p := ⟨b, o + j * 6 + 3, none⟩) hB).trans h3, (hb.cell (p := ⟨b, o + j * 6 + 4, none⟩) hB).trans h4, (hb.cell (p := ⟨b, o + j * 6 + 5, none⟩) hB).trans h5⟩, hd.below hb⟩
theorem OpsIn.below {w w' : World} {p : Option Addr} {l : List Ox} (h : OpsIn w p l) (hb : Below w.heap.size w w') : OpsIn w' p l := by
  rcases h with h | ⟨b, o, hp, hc⟩
  · exact Or.inl h
  · exact Or.inr ⟨b, o, hp, fun j hj => (hc j hj).below hb⟩
theorem OpsIn.some {w : World} {p : Option Addr} {l : List Ox} (h : OpsIn w p l) (hl : l ≠ []) : ∃ b o, p = some ⟨b, o, none⟩ ∧ ∀ j, j < l.length → OAt w b o j (l.getD j oz) := by
  rcases h with h | h
  · exact absurd h hl
  · exact h
def OpsAt (w : World) (v : Value) (l : List Ox) : Prop := ∃ p c, v = .slice p l.length c ∧ OpsIn w p l ∧ l.length ≤ c ∧ c ≤ maxLen ∧ (p = none → c = 0)
theorem OpsAt.below {w w' : World} {v : Value} {l : List Ox} (h : OpsAt w v l) (hb : Below w.heap.size w w') : OpsAt w' v l := by
  obtain ⟨p, c, h1, h2, h3⟩ := h
  exact ⟨p, c, h1, h2.below hb, h3⟩
theorem OpsAt.nil (w : World) : OpsAt w (.slice none 0 0) [] := ⟨none, 0, rfl, Or.inl rfl, Nat.le_refl _, by unfold maxLen; omega, fun _ => rfl⟩
theorem getO_mem {l : List Ox} {j : Nat} (hj : j < l.length) : l.getD j oz ∈ l := by
  rw [List.getD_eq_getElem?_getD, List.getElem?_eq_getElem hj]; exact List.getElem_mem hj
/- a row of the call's own, as ops -/
theorem own_ops {w : World} {base : Nat} {t : TypeId} {v : Value} {n : Nat} {l : List (Ox × Value)} (h : w.ownsRow base t 6 v n (flatO l)) (hd : ∀ y ∈ l, DtsAt w y.2 y.1.2.2.2.2) : OpsAt w v (l.map (·.1)) := by
  have hn : l.length = n := by have := h.1; rw [flatO_length] at this; omega
  have hm : (l.map (·.1)).length = n := by rw [List.length_map]; exact hn
  rcases h.2 with ⟨rfl, h0⟩ | ⟨g, cap, cur, rfl, _, h2, h3, h4, h5, h6⟩
  · subst h0
    have : l = [] := List.eq_nil_of_length_eq_zero hn
    subst this
    exact OpsAt.nil w
  · refine ⟨some ⟨g, 0, none⟩, cap, by rw [hm], Or.inr ⟨g, 0, rfl, fun j hj => ?_⟩, by rw [hm]; exact h3, h4, fun e => by cases e⟩
    have hj2 : j < l.length := by rwa [List.length_map] at hj
    have key : ∀ i u, (flatO l)[i]? = some u → w.cell? ⟨g, 0 + i, none⟩ = some u := by
      intro i u hu
      have hi : i < n * 6 := by rw [← hn, ← flatO_length]; exact (List.getElem?_eq_some_iff.1 hu).1
      rw [← h6, List.getElem?_take_of_lt hi] at hu
      rw [Nat.zero_add]
      simp only [World.cell?, h2]
      simpa using hu
    have e1 : (l.map (·.1)).getD j oz = l[j].1 := by
      rw [List.getD_eq_getElem?_getD, List.getElem?_map, List.getElem?_eq_getElem hj2]; rfl
    rw [e1]
    have hf := fun i u => flatO_at (l := l) (j := j) (y := l[j]) (List.getElem?_eq_getElem hj2) i u
    refine ⟨l[j].2, ⟨?_, ?_, ?_, ?_, ?_, ?_⟩, hd _ (List.getElem_mem hj2)⟩
    · have := key _ _ (hf 0 _ rfl); rwa [show 0 + (j * 6 + 0) = 0 + j * 6 by omega] at this
    · have := key _ _ (hf 1 _ rfl); rwa [show 0 + (j * 6 + 1) = 0 + j * 6 + 1 by omega] at this
    · have := key _ _ (hf 2 _ rfl); rwa [show 0 + (j * 6 + 2) = 0 + j * 6 + 2 by omega] at this
    · have := key _ _ (hf 3 _ rfl); rwa [show 0 + (j * 6 + 3) = 0 + j * 6 + 3 by omega] at this
    · have := key _ _ (hf 4 _ rfl); rwa [show 0 + (j * 6 + 4) = 0 + j * 6 + 4 by omega] at this
    · have := key _ _ (hf 5 _ rfl); rwa [show 0 + (j * 6 + 5) = 0 + j * 6 + 5 by omega] at this
/- an op by value -/
def opV (x : Ox) (v : Value) : Value := .agg #[.int .i64 x.1.1, .int .i64 x.1.2, .int .i64 x.2.1, .string x.2.2.1, .int .i64 x.2.2.2.1, v]
def OpV (w : World) (u : Value) (x : Ox) : Prop := ∃ v, u = opV x v ∧ DtsAt w v x.2.2.2.2
theorem OpV.below {w w' : World} {u : Value} {x : Ox} (h : OpV w u x) (hb : Below w.heap.size w w') : OpV w' u x := by
  obtain ⟨v, h1, h2⟩ := h
  exact ⟨v, h1, h2.below hb⟩

end Oa
end Go.Proofs.YtcmoajlcmeimiaaDoor
