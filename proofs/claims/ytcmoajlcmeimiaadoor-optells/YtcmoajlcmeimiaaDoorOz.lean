/- What the texts of ops share: cells that stay, numbers that do not wrap, dots one by one. -/
import Derived.Test.YtcmoajlcmeimiaaDoorOa
import Derived.Deep.RegionHeld3
import Derived.Deep.QuietTactic
import Derived.BigQuiet
namespace Go.Proofs.YtcmoajlcmeimiaaDoor
namespace Oz
set_option linter.unusedVariables false
open Go.ChangeShapes Go.WideShapes Go.ChangeAt Go.RowKit Cm Ka Kb Na Om Oa
open La (bel bel_drew errV_zero errV_ne own_ge own_grow own_below)

theorem keep_cell {W W' : World} {p : Addr} {v : Value} (hb : Below W.heap.size W W') (h : W.cell? p = some v) : W'.cell? p = some v := (hb.cell (World.block_lt_of_cell? _ _ h)).trans h
theorem wrap_in {x : Int} (h1 : -1000000 ≤ x) (h2 : x ≤ 1000000) : IntKind.i64.wrap x = x := by
  rw [IntKind.wrap_i64]; omega
theorem bel_new {w wr w2 : World} {o : Obj} (h : Below w.heap.size w wr) (hb : Below (wr.alloc o).heap.size (wr.alloc o) w2) : Below w.heap.size w w2 := bel (h.alloc h.size o) hb
theorem bel_up {w wr w2 : World} (h : Below w.heap.size w wr) (hb : Below wr.heap.size wr w2) : Below w.heap.size w w2 := bel h hb
theorem dotsE_fault : ∀ {s : List Dt} {k : Nat}, k < s.length → (∀ j, j < k → dotE (s.getD j noneD).1 (s.getD j noneD).2 = 0) → dotE (s.getD k noneD).1 (s.getD k noneD).2 ≠ 0 → dotsE s = dotE (s.getD k noneD).1 (s.getD k noneD).2 := by
  intro s k hk h1 h2
  have key : ∀ (s : List Dt) (k : Nat), k < s.length → (∀ j, j < k → dotE (s.getD j noneD).1 (s.getD j noneD).2 = 0) → dotE (s.getD k noneD).1 (s.getD k noneD).2 ≠ 0 → s.find? (fun d => decide (dotE d.1 d.2 ≠ 0)) = some (s.getD k noneD) := by
    intro s
    induction s with
    | nil => intro k hk; simp at hk
    | cons y s ih =>
      intro k hk h1 h2
      cases k with
      | zero =>
        have h3 : dotE y.1 y.2 ≠ 0 := h2
        rw [List.find?_cons_of_pos (by simpa using h3)]; rfl
      | succ k =>
        have h3 : dotE y.1 y.2 = 0 := h1 0 (by omega)
        rw [List.find?_cons_of_neg (by simpa using h3)]
        exact ih k (by simpa using hk) (fun j hj => h1 (j + 1) (by omega)) h2
  unfold dotsE
  rw [key s k hk h1 h2]
theorem all_zero {s : List Dt} (h : ∀ j, j < s.length → dotE (s.getD j noneD).1 (s.getD j noneD).2 = 0) : ∀ d ∈ s, dotE d.1 d.2 = 0 := by
  intro d hd
  obtain ⟨j, hj, e⟩ := List.mem_iff_getElem.1 hd
  have := h j hj
  rw [List.getD_eq_getElem?_getD, List.getElem?_eq_getElem hj] at this
  simp only [Option.getD_some] at this
  rw [e] at this; exact this
theorem dotsE_cases {s : List Dt} (h : ∀ d ∈ s, dotE d.1 d.2 = 0) : dotsE s = 0 ∨ dotsE s = 7 := by
  unfold dotsE
  cases hf : s.find? (fun d => decide (dotE d.1 d.2 ≠ 0)) with
  | some d =>
    have h1 := List.mem_of_find?_eq_some hf
    have h2 := List.find?_some hf
    simp only [decide_eq_true_eq] at h2
    exact absurd (h d h1) h2
  | none => simp only []; split <;> simp
theorem dotsE_seven {s : List Dt} {m : Nat} (h : ∀ d ∈ s, dotE d.1 d.2 = 0) (hm : m + 1 < s.length) (h2 : dlt (s.getD m noneD) (s.getD (m + 1) noneD) = false) : dotsE s = 7 := by
  rcases dotsE_cases h with e | e
  · have hr := (dotsE_zero.1 e).2
    have h3 := (rise_steps dlt_strict).1 hr m hm (s.getD m noneD) (s.getD (m + 1) noneD) (by rw [List.getD_eq_getElem?_getD, List.getElem?_eq_getElem (by omega)]; rfl) (by rw [List.getD_eq_getElem?_getD, List.getElem?_eq_getElem hm]; rfl)
    rw [h2] at h3; cases h3
  · exact e
theorem dotsE_ok {s : List Dt} (h : ∀ d ∈ s, dotE d.1 d.2 = 0) (h2 : ∀ m, m + 1 < s.length → dlt (s.getD m noneD) (s.getD (m + 1) noneD) = true) : dotsE s = 0 := by
  refine dotsE_zero.2 ⟨h, (rise_steps dlt_strict).2 fun i hi a b ha hb => ?_⟩
  have := h2 i hi
  rw [List.getD_eq_getElem?_getD, List.getD_eq_getElem?_getD, ha, hb] at this
  exact this
/- an op that has just been laid -/
def Six (W : World) (h : Nat) (a b t : Int) (p : ByteArray) (c : Int) (v : Value) : Prop :=
  W.cell? ⟨h, 0, none⟩ = some (.int .i64 a) ∧ W.cell? ⟨h, 1, none⟩ = some (.int .i64 b) ∧ W.cell? ⟨h, 2, none⟩ = some (.int .i64 t) ∧ W.cell? ⟨h, 3, none⟩ = some (.string p) ∧ W.cell? ⟨h, 4, none⟩ = some (.int .i64 c) ∧ W.cell? ⟨h, 5, none⟩ = some v
theorem six_new (w : World) (a b t : Int) (p : ByteArray) (c : Int) (v : Value) (T : TypeId) : Six (w.alloc (.cells #[.int .i64 a, .int .i64 b, .int .i64 t, .string p, .int .i64 c, v] T)) w.heap.size a b t p c v := by
  have h2 := heap_alloc_new w (.cells #[.int .i64 a, .int .i64 b, .int .i64 t, .string p, .int .i64 c, v] T)
  refine ⟨?_, ?_, ?_, ?_, ?_, ?_⟩ <;> (simp only [World.cell?, h2]; rfl)
theorem Six.below {W W' : World} {h : Nat} {a b t : Int} {p : ByteArray} {c : Int} {v : Value} (s : Six W h a b t p c v) (hb : Below W.heap.size W W') : Six W' h a b t p c v := by
  obtain ⟨h0, h1, h2, h3, h4, h5⟩ := s
  exact ⟨keep_cell hb h0, keep_cell hb h1, keep_cell hb h2, keep_cell hb h3, keep_cell hb h4, keep_cell hb h5⟩

end Oz
end Go.Proofs.YtcmoajlcmeimiaaDoor
