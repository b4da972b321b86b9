/- Marks and dots that lie in memory: three cells a mark, two a dot. -/
import Derived.Test.YtiiiineipajhmaaDoorJ1
import Derived.Test.YtiiiineipajhmaaDoorJ2
namespace Go.Proofs.YtiiiineipajhmaaDoor
namespace Na
set_option linter.unusedVariables false
open Go.ChangeShapes Go.WideShapes Go.ChangeAt Go.RowKit Cm Ka Kb
open La (bel bel_drew errV_zero errV_ne own_ge own_grow own_below)

def none1 : Mk := (ByteArray.empty, (0, 0))
def aggM (x : Mk) : Value := .agg #[.string x.1, .int .i64 x.2.1, .int .i64 x.2.2]
def cells3 (x : Mk) : List Value := [.string x.1, .int .i64 x.2.1, .int .i64 x.2.2]
def flat (l : List Mk) : List Value := l.flatMap cells3
theorem flat_append (a b : List Mk) : flat (a ++ b) = flat a ++ flat b := by unfold flat; rw [List.flatMap_append]
theorem flat_length : ∀ l : List Mk, (flat l).length = l.length * 3
  | [] => rfl
  | x :: l => by
    have := flat_length l
    unfold flat at this ⊢
    rw [List.flatMap_cons, List.length_append, this]
    simp [cells3]; omega
theorem flat_at : ∀ {l : List Mk} {j : Nat} (hj : j < l.length), (flat l)[j * 3]? = some (.string (l.getD j none1).1) ∧ (flat l)[j * 3 + 1]? = some (.int .i64 (l.getD j none1).2.1) ∧ (flat l)[j * 3 + 2]? = some (.int .i64 (l.getD j none1).2.2)
  | [], j, hj => absurd hj (by simp)
  | x :: l, 0, _ => ⟨rfl, rfl, rfl⟩
  | x :: l, j + 1, hj => by
    have h := flat_at (l := l) (j := j) (by simpa using hj)
    have e : ∀ i, (flat (x :: l))[i + 3]? = (flat l)[i]? := fun i => by
      unfold flat
      rw [List.flatMap_cons, List.getElem?_append_right (by simp [cells3])]
      simp [cells3]
    rw [show (j + 1) * 3 = j * 3 + 3 by omega, show j * 3 + 3 + 1 = j * 3 + 1 + 3 by omega, show j * 3 + 3 + 2 = j * 3 + 2 + 3 by omega, e, e, e]
    exact h

/- mark j of a row at b, o -/
def MAt (w : World) (b o j : Nat) (x : Mk) : Prop := w.cell? ⟨b, o + j * 3, none⟩ = some (.string x.1) ∧ w.cell? ⟨b, o + j * 3 + 1, none⟩ = some (.int .i64 x.2.1) ∧ w.cell? ⟨b, o + j * 3 + 2, none⟩ = some (.int .i64 x.2.2)
def MarksIn (w : World) (p : Option Addr) (l : List Mk) : Prop :=
  l = [] ∨ ∃ b o, p = some ⟨b, o, none⟩ ∧ ∀ j, j < l.length → MAt w b o j (l.getD j none1)
theorem MAt.below {w w' : World} {b o j : Nat} {x : Mk} {B : Nat} (h : MAt w b o j x) (hb : Below B w w') (hB : b < B) : MAt w' b o j x :=
  ⟨(hb.cell (p := ⟨b, o + j * 3, none⟩) hB).trans h.1, (hb.cell (p := ⟨b, o + j * 3 + 1, none⟩) hB).trans h.2.1, (hb.cell (p := ⟨b, o + j * 3 + 2, none⟩) hB).trans h.2.2⟩
theorem MAt.lt {w : World} {b o j : Nat} {x : Mk} (h : MAt w b o j x) : b < w.heap.size := World.block_lt_of_cell? _ ⟨b, o + j * 3, none⟩ h.1
theorem MarksIn.below {w w' : World} {p : Option Addr} {l : List Mk} (h : MarksIn w p l) (hb : Below w.heap.size w w') : MarksIn w' p l := by
  rcases h with h | ⟨b, o, hp, hc⟩
  · exact Or.inl h
  · exact Or.inr ⟨b, o, hp, fun j hj => (hc j hj).below hb (hc j hj).lt⟩
theorem MarksIn.nil (w : World) (p : Option Addr) : MarksIn w p [] := Or.inl rfl
theorem MarksIn.some {w : World} {p : Option Addr} {l : List Mk} (h : MarksIn w p l) (hl : l ≠ []) : ∃ b o, p = some ⟨b, o, none⟩ ∧ ∀ j, j < l.length → MAt w b o j (l.getD j none1) := by
  rcases h with h | h
  · exact absurd h hl
  · exact h
theorem at_flat {w : World} {b o : Nat} {l : List Mk} (h : ∀ j, j < l.length → MAt w b o j (l.getD j none1)) : ∀ j u, (flat l)[j]? = some u → w.cell? ⟨b, o + j, none⟩ = some u := by
  intro j u hu
  have hj : j < l.length * 3 := by rw [← flat_length]; exact (List.getElem?_eq_some_iff.1 hu).1
  have hq : j / 3 < l.length := by omega
  have hc := h (j / 3) hq
  have hf := flat_at hq
  have hm : j = j / 3 * 3 + j % 3 := by omega
  have h3 : j % 3 = 0 ∨ j % 3 = 1 ∨ j % 3 = 2 := by omega
  rcases h3 with e | e | e
  · rw [e, Nat.add_zero] at hm
    rw [← hm] at hf
    rw [hf.1] at hu
    injection hu with hu
    rw [← hu]
    have := hc.1
    rwa [← hm] at this
  · rw [e] at hm
    rw [← hm] at hf
    rw [hf.2.1] at hu
    injection hu with hu
    rw [← hu]
    have := hc.2.1
    rwa [show o + j / 3 * 3 + 1 = o + (j / 3 * 3 + 1) by omega, ← hm] at this
  · rw [e] at hm
    rw [← hm] at hf
    rw [hf.2.2] at hu
    injection hu with hu
    rw [← hu]
    have := hc.2.2
    rwa [show o + j / 3 * 3 + 2 = o + (j / 3 * 3 + 2) by omega, ← hm] at this
theorem flat_one (l : List Mk) : ∀ u ∈ flat l, u.oneCell' = true := by
  intro u hu
  unfold flat at hu
  obtain ⟨x, _, hx⟩ := List.mem_flatMap.1 hu
  simp only [cells3, List.mem_cons, List.not_mem_nil, or_false] at hx
  rcases hx with rfl | rfl | rfl <;> rfl
/- a row of the call's own, as marks -/
theorem own_marks {w : World} {base : Nat} {t : TypeId} {v : Value} {n : Nat} {l : List Mk} (h : w.ownsRow base t 3 v n (flat l)) : l.length = n ∧ ∃ p c, v = .slice p n c ∧ MarksIn w p l := by
  have hn : l.length = n := by have := h.1; rw [flat_length] at this; omega
  refine ⟨hn, ?_⟩
  rcases h.2 with ⟨rfl, h0⟩ | ⟨g, cap, cur, rfl, _, h2, h3, h4, h5, h6⟩
  · subst h0
    exact ⟨none, 0, rfl, Or.inl (List.eq_nil_of_length_eq_zero hn)⟩
  · refine ⟨some ⟨g, 0, none⟩, cap, rfl, Or.inr ⟨g, 0, rfl, fun j hj => ?_⟩⟩
    have hf := flat_at hj
    have key : ∀ i u, (flat l)[i]? = some u → w.cell? ⟨g, 0 + i, none⟩ = some u := by
      intro i u hu
      have hi : i < n * 3 := by rw [← hn, ← flat_length]; exact (List.getElem?_eq_some_iff.1 hu).1
      rw [← h6, List.getElem?_take_of_lt hi] at hu
      rw [Nat.zero_add]
      simp only [World.cell?, h2]
      simpa using hu
    refine ⟨key _ _ hf.1, ?_, ?_⟩
    · have := key _ _ hf.2.1; rwa [show 0 + (j * 3 + 1) = 0 + j * 3 + 1 by omega] at this
    · have := key _ _ hf.2.2; rwa [show 0 + (j * 3 + 2) = 0 + j * 3 + 2 by omega] at this

/- dots: two cells each -/
def noneD : Dt := (0, 0)
def aggD (x : Dt) : Value := .agg #[.int .i64 x.1, .int .i64 x.2]
def cells2 (x : Dt) : List Value := [.int .i64 x.1, .int .i64 x.2]
def flatD (l : List Dt) : List Value := l.flatMap cells2
theorem flatD_append (a b : List Dt) : flatD (a ++ b) = flatD a ++ flatD b := by unfold flatD; rw [List.flatMap_append]
theorem flatD_length : ∀ l : List Dt, (flatD l).length = l.length * 2
  | [] => rfl
  | x :: l => by
    have := flatD_length l
    unfold flatD at this ⊢
    rw [List.flatMap_cons, List.length_append, this]
    simp [cells2]; omega
theorem flatD_at : ∀ {l : List Dt} {j : Nat} (hj : j < l.length), (flatD l)[j * 2]? = some (.int .i64 (l.getD j noneD).1) ∧ (flatD l)[j * 2 + 1]? = some (.int .i64 (l.getD j noneD).2)
  | [], j, hj => absurd hj (by simp)
  | x :: l, 0, _ => ⟨rfl, rfl⟩
  | x :: l, j + 1, hj => by
    have h := flatD_at (l := l) (j := j) (by simpa using hj)
    have e : ∀ i, (flatD (x :: l))[i + 2]? = (flatD l)[i]? := fun i => by
      unfold flatD
      rw [List.flatMap_cons, List.getElem?_append_right (by simp [cells2])]
      simp [cells2]
    rw [show (j + 1) * 2 = j * 2 + 2 by omega, show j * 2 + 2 + 1 = j * 2 + 1 + 2 by omega, e, e]
    exact h
def DAt (w : World) (b o j : Nat) (x : Dt) : Prop := w.cell? ⟨b, o + j * 2, none⟩ = some (.int .i64 x.1) ∧ w.cell? ⟨b, o + j * 2 + 1, none⟩ = some (.int .i64 x.2)
def DotsIn (w : World) (p : Option Addr) (l : List Dt) : Prop :=
  l = [] ∨ ∃ b o, p = some ⟨b, o, none⟩ ∧ ∀ j, j < l.length → DAt w b o j (l.getD j noneD)
theorem DAt.below {w w' : World} {b o j : Nat} {x : Dt} {B : Nat} (h : DAt w b o j x) (hb : Below B w w') (hB : b < B) : DAt w' b o j x :=
  ⟨(hb.cell (p := ⟨b, o + j * 2, none⟩) hB).trans h.1, (hb.cell (p := ⟨b, o + j * 2 + 1, none⟩) hB).trans h.2⟩
theorem DAt.lt {w : World} {b o j : Nat} {x : Dt} (h : DAt w b o j x) : b < w.heap.size := World.block_lt_of_cell? _ ⟨b, o + j * 2, none⟩ h.1
theorem DotsIn.below {w w' : World} {p : Option Addr} {l : List Dt} (h : DotsIn w p l) (hb : Below w.heap.size w w') : DotsIn w' p l := by
  rcases h with h | ⟨b, o, hp, hc⟩
  · exact Or.inl h
  · exact Or.inr ⟨b, o, hp, fun j hj => (hc j hj).below hb (hc j hj).lt⟩
theorem DotsIn.some {w : World} {p : Option Addr} {l : List Dt} (h : DotsIn w p l) (hl : l ≠ []) : ∃ b o, p = some ⟨b, o, none⟩ ∧ ∀ j, j < l.length → DAt w b o j (l.getD j noneD) := by
  rcases h with h | h
  · exact absurd h hl
  · exact h
theorem flatD_one (l : List Dt) : ∀ u ∈ flatD l, u.oneCell' = true := by
  intro u hu
  unfold flatD at hu
  obtain ⟨x, _, hx⟩ := List.mem_flatMap.1 hu
  simp only [cells2, List.mem_cons, List.not_mem_nil, or_false] at hx
  rcases hx with rfl | rfl <;> rfl
theorem own_dots {w : World} {base : Nat} {t : TypeId} {v : Value} {n : Nat} {l : List Dt} (h : w.ownsRow base t 2 v n (flatD l)) : l.length = n ∧ ∃ p c, v = .slice p n c ∧ DotsIn w p l := by
  have hn : l.length = n := by have := h.1; rw [flatD_length] at this; omega
  refine ⟨hn, ?_⟩
  rcases h.2 with ⟨rfl, h0⟩ | ⟨g, cap, cur, rfl, _, h2, h3, h4, h5, h6⟩
  · subst h0
    exact ⟨none, 0, rfl, Or.inl (List.eq_nil_of_length_eq_zero hn)⟩
  · refine ⟨some ⟨g, 0, none⟩, cap, rfl, Or.inr ⟨g, 0, rfl, fun j hj => ?_⟩⟩
    have hf := flatD_at hj
    have key : ∀ i u, (flatD l)[i]? = some u → w.cell? ⟨g, 0 + i, none⟩ = some u := by
      intro i u hu
      have hi : i < n * 2 := by rw [← hn, ← flatD_length]; exact (List.getElem?_eq_some_iff.1 hu).1
      rw [← h6, List.getElem?_take_of_lt hi] at hu
      rw [Nat.zero_add]
      simp only [World.cell?, h2]
      simpa using hu
    refine ⟨key _ _ hf.1, ?_⟩
    have := key _ _ hf.2; rwa [show 0 + (j * 2 + 1) = 0 + j * 2 + 1 by omega] at this
theorem getM_mem {l : List Mk} {j : Nat} (hj : j < l.length) : l.getD j none1 ∈ l := by
  rw [List.getD_eq_getElem?_getD, List.getElem?_eq_getElem hj]; exact List.getElem_mem hj
theorem dropM_at {l : List Mk} {k : Nat} (hk : k < l.length) : l.drop k = l.getD k none1 :: l.drop (k + 1) := by
  rw [List.drop_eq_getElem_cons hk, List.getD_eq_getElem?_getD, List.getElem?_eq_getElem hk]; rfl
theorem getD_mem {l : List Dt} {j : Nat} (hj : j < l.length) : l.getD j noneD ∈ l := by
  rw [List.getD_eq_getElem?_getD, List.getElem?_eq_getElem hj]; exact List.getElem_mem hj
theorem dropD_at {l : List Dt} {k : Nat} (hk : k < l.length) : l.drop k = l.getD k noneD :: l.drop (k + 1) := by
  rw [List.drop_eq_getElem_cons hk, List.getD_eq_getElem?_getD, List.getElem?_eq_getElem hk]; rfl

/- marks and dots as values -/
def MksAt (w : World) (v : Value) (l : List Mk) : Prop := ∃ p c, v = .slice p l.length c ∧ MarksIn w p l ∧ l.length ≤ c ∧ c ≤ maxLen ∧ (p = none → c = 0)
theorem MksAt.below {w w' : World} {v : Value} {l : List Mk} (h : MksAt w v l) (hb : Below w.heap.size w w') : MksAt w' v l := by
  obtain ⟨p, c, h1, h2, h3⟩ := h
  exact ⟨p, c, h1, h2.below hb, h3⟩
theorem MksAt.nil (w : World) : MksAt w (.slice none 0 0) [] := ⟨none, 0, rfl, Or.inl rfl, Nat.le_refl _, by unfold maxLen; omega, fun _ => rfl⟩
def DtsAt (w : World) (v : Value) (l : List Dt) : Prop := ∃ p c, v = .slice p l.length c ∧ DotsIn w p l ∧ l.length ≤ c ∧ c ≤ maxLen ∧ (p = none → c = 0)
theorem DtsAt.below {w w' : World} {v : Value} {l : List Dt} (h : DtsAt w v l) (hb : Below w.heap.size w w') : DtsAt w' v l := by
  obtain ⟨p, c, h1, h2, h3⟩ := h
  exact ⟨p, c, h1, h2.below hb, h3⟩
theorem DtsAt.nil (w : World) : DtsAt w (.slice none 0 0) [] := ⟨none, 0, rfl, Or.inl rfl, Nat.le_refl _, by unfold maxLen; omega, fun _ => rfl⟩
theorem own_mks {w : World} {base : Nat} {t : TypeId} {v : Value} {n : Nat} {l : List Mk} (h : w.ownsRow base t 3 v n (flat l)) : MksAt w v l := by
  obtain ⟨hn, p, c, hv, hl⟩ := own_marks h
  refine ⟨p, c, by rw [hn]; exact hv, hl, ?_⟩
  rcases h.2 with ⟨e, e0⟩ | ⟨g, cap, cur, e, _, _, h3, h4, _⟩
  · rw [hv] at e
    injection e with e1 e2 e3
    exact ⟨by omega, by rw [e3]; unfold maxLen; omega, fun _ => e3⟩
  · rw [hv] at e
    injection e with e1 e2 e3
    exact ⟨by omega, by omega, fun h9 => by rw [h9] at e1; cases e1⟩
theorem own_dts {w : World} {base : Nat} {t : TypeId} {v : Value} {n : Nat} {l : List Dt} (h : w.ownsRow base t 2 v n (flatD l)) : DtsAt w v l := by
  obtain ⟨hn, p, c, hv, hl⟩ := own_dots h
  refine ⟨p, c, by rw [hn]; exact hv, hl, ?_⟩
  rcases h.2 with ⟨e, e0⟩ | ⟨g, cap, cur, e, _, _, h3, h4, _⟩
  · rw [hv] at e
    injection e with e1 e2 e3
    exact ⟨by omega, by rw [e3]; unfold maxLen; omega, fun _ => e3⟩
  · rw [hv] at e
    injection e with e1 e2 e3
    exact ⟨by omega, by omega, fun h9 => by rw [h9] at e1; cases e1⟩
/- marks that lie from block B on -/
def MksNew (B : Nat) (w : World) (v : Value) (l : List Mk) : Prop := MksAt w v l ∧ La.Lies B v
theorem MksNew.mono {B C : Nat} {w : World} {v : Value} {l : List Mk} (h : MksNew B w v l) (hC : C ≤ B) : MksNew C w v l := ⟨h.1, h.2.mono hC⟩
theorem MksNew.nil (B : Nat) (w : World) : MksNew B w (.slice none 0 0) [] := ⟨MksAt.nil w, La.Lies.nil B⟩

end Na
end Go.Proofs.YtiiiineipajhmaaDoor
