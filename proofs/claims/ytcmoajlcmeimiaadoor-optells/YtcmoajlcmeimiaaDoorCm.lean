/- The plain mathematics of lists that rise by an order of one's own; of dots and marks. No program is named here. -/
import Derived.Test.YtcmoajlcmeimiaaDoorBm
import Derived.Test.YtcmoajlcmeimiaaDoorPm
namespace Go.Proofs.YtcmoajlcmeimiaaDoor
namespace Cm
set_option linter.unusedVariables false
set_option linter.unusedSectionVars false
open Op (bytesLess)

section
variable {α : Type} [DecidableEq α] (lt : α → α → Bool)
/- a strict order in which any two are held against each other -/
def Strict : Prop := (∀ a, lt a a = false) ∧ (∀ a b c, lt a b = true → lt b c = true → lt a c = true) ∧ (∀ a b, lt a b = false → a ≠ b → lt b a = true)
def Rise (l : List α) : Prop := l.Pairwise fun x y => lt x y = true
def pos (l : List α) (x : α) : Nat := (l.takeWhile fun y => lt y x).length
def there (l : List α) (x : α) : Bool := decide (x ∈ l)
theorem there_iff {l : List α} {x : α} : there l x = true ↔ x ∈ l := by unfold there; rw [decide_eq_true_eq]
def ins (l : List α) (x : α) : List α := if x ∈ l then l else l.take (pos lt l x) ++ x :: l.drop (pos lt l x)
variable {lt}
theorem Strict.asymm (h : Strict lt) {a b : α} (h1 : lt a b = true) : lt b a = false := by
  cases h2 : lt b a
  · rfl
  · have := h.2.1 _ _ _ h1 h2; rw [h.1] at this; cases this
theorem pos_le (l : List α) (x : α) : pos lt l x ≤ l.length := by
  unfold pos
  induction l with
  | nil => simp
  | cons y l ih => rw [List.takeWhile_cons]; split <;> simp; omega
theorem cut (h : Strict lt) : ∀ {l : List α} (x : α), Rise lt l → (∀ y ∈ l.take (pos lt l x), lt y x = true) ∧ (∀ y ∈ l.drop (pos lt l x), lt y x = false)
  | [], x, _ => by simp [pos]
  | y :: l, x, hr => by
    have hc := List.pairwise_cons.1 hr
    obtain ⟨i1, i2⟩ := cut h x hc.2
    cases hy : lt y x
    · have e : pos lt (y :: l) x = 0 := by simp [pos, hy]
      rw [e]
      refine ⟨by simp, fun z hz => ?_⟩
      rw [List.drop_zero] at hz
      rcases List.mem_cons.1 hz with rfl | hz
      · exact hy
      · cases h9 : lt z x
        · rfl
        · rw [h.2.1 _ _ _ (hc.1 z hz) h9] at hy; cases hy
    · have e : pos lt (y :: l) x = pos lt l x + 1 := by simp [pos, hy]
      rw [e, List.take_succ_cons, List.drop_succ_cons]
      refine ⟨fun z hz => ?_, i2⟩
      rcases List.mem_cons.1 hz with rfl | hz
      · exact hy
      · exact i1 z hz
theorem mem_ins (l : List α) (x y : α) : y ∈ ins lt l x ↔ y = x ∨ y ∈ l := by
  unfold ins
  by_cases h : x ∈ l
  · rw [if_pos h]
    constructor
    · exact Or.inr
    · rintro (rfl | h2)
      · exact h
      · exact h2
  · rw [if_neg h, List.mem_append, List.mem_cons]
    have e : y ∈ l ↔ y ∈ l.take (pos lt l x) ∨ y ∈ l.drop (pos lt l x) := by
      rw [← List.mem_append, List.take_append_drop]
    rw [e]
    constructor
    · rintro (h1 | h1 | h1)
      · exact Or.inr (Or.inl h1)
      · exact Or.inl h1
      · exact Or.inr (Or.inr h1)
    · rintro (h1 | h1 | h1)
      · exact Or.inr (Or.inl h1)
      · exact Or.inl h1
      · exact Or.inr (Or.inr h1)
theorem ins_rise (h : Strict lt) {l : List α} (hr : Rise lt l) (x : α) : Rise lt (ins lt l x) := by
  unfold ins
  by_cases hx : x ∈ l
  · rw [if_pos hx]; exact hr
  · rw [if_neg hx]
    obtain ⟨c1, c2⟩ := cut h x hr
    have hd : ∀ y ∈ l.drop (pos lt l x), lt x y = true := fun y hy => h.2.2 _ _ (c2 y hy) (by rintro rfl; exact hx (List.mem_of_mem_drop hy))
    unfold Rise
    rw [List.pairwise_append]
    refine ⟨hr.sublist (List.take_sublist _ _), List.pairwise_cons.2 ⟨hd, hr.sublist (List.drop_sublist _ _)⟩, ?_⟩
    intro a ha b hb
    rcases List.mem_cons.1 hb with rfl | hb
    · exact c1 a ha
    · exact h.2.1 _ _ _ (c1 a ha) (hd b hb)
theorem ins_length (l : List α) (x : α) : (ins lt l x).length = if x ∈ l then l.length else l.length + 1 := by
  unfold ins
  by_cases h : x ∈ l
  · rw [if_pos h, if_pos h]
  · have := pos_le (lt := lt) l x
    rw [if_neg h, if_neg h, List.length_append, List.length_cons, List.length_take, List.length_drop]; omega
theorem ins_there {l : List α} {x : α} (h : x ∈ l) : ins lt l x = l := by unfold ins; rw [if_pos h]
theorem ins_again (l : List α) (x : α) : ins lt (ins lt l x) x = ins lt l x := ins_there ((mem_ins l x x).2 (Or.inl rfl))
theorem rise_ext (h : Strict lt) : ∀ {a b : List α}, Rise lt a → Rise lt b → (∀ x, x ∈ a ↔ x ∈ b) → a = b
  | [], [], _, _, _ => rfl
  | [], y :: b, _, _, e => by have := (e y).2 (List.mem_cons_self ..); simp at this
  | x :: a, [], _, _, e => by have := (e x).1 (List.mem_cons_self ..); simp at this
  | x :: a, y :: b, ha, hb, e => by
    have ca := List.pairwise_cons.1 ha
    have cb := List.pairwise_cons.1 hb
    have hxy : x = y := by
      rcases List.mem_cons.1 ((e x).1 (List.mem_cons_self ..)) with e1 | e1
      · exact e1
      · rcases List.mem_cons.1 ((e y).2 (List.mem_cons_self ..)) with e2 | e2
        · exact e2.symm
        · have h1 := cb.1 x e1
          have h2 := ca.1 y e2
          rw [h.asymm h1] at h2; cases h2
    subst hxy
    congr 1
    refine rise_ext h ca.2 cb.2 fun z => ?_
    have hz := e z
    constructor
    · intro hm
      rcases List.mem_cons.1 (hz.1 (List.mem_cons_of_mem _ hm)) with e1 | e1
      · have := ca.1 z hm; rw [e1, h.1] at this; cases this
      · exact e1
    · intro hm
      rcases List.mem_cons.1 (hz.2 (List.mem_cons_of_mem _ hm)) with e1 | e1
      · have := cb.1 z hm; rw [e1, h.1] at this; cases this
      · exact e1
theorem filter_rise {l : List α} (hr : Rise lt l) (p : α → Bool) : Rise lt (l.filter p) := hr.sublist List.filter_sublist
/- the rising that a loop sees: each one above the one ahead of it -/
theorem rise_steps (h : Strict lt) : ∀ {l : List α}, Rise lt l ↔ ∀ i, i + 1 < l.length → ∀ a b, l[i]? = some a → l[i + 1]? = some b → lt a b = true
  | [] => by simp [Rise]
  | [x] => by simp [Rise]
  | x :: y :: l => by
    rw [Rise, List.pairwise_cons]
    have ih := rise_steps h (l := y :: l)
    constructor
    · rintro ⟨h1, h2⟩ i hi a b ha hb
      cases i with
      | zero =>
        simp at ha hb
        subst ha hb
        exact h1 _ (List.mem_cons_self ..)
      | succ i => exact ih.1 h2 i (by simpa using hi) a b (by simpa using ha) (by simpa using hb)
    · intro h1
      have h2 : Rise lt (y :: l) := ih.2 fun i hi a b ha hb => h1 (i + 1) (by simpa using hi) a b (by simpa using ha) (by simpa using hb)
      have hxy : lt x y = true := h1 0 (by simp) x y rfl rfl
      refine ⟨fun z hz => ?_, h2⟩
      rcases List.mem_cons.1 hz with rfl | hz
      · exact hxy
      · exact h.2.1 _ _ _ hxy ((List.pairwise_cons.1 h2).1 z hz)
end

/- dots by Who, then N; marks by Place, then their dots -/
abbrev Dt := Int × Int
abbrev Mk := ByteArray × Dt
def dlt (a b : Dt) : Bool := decide (a.1 < b.1) || (decide (a.1 = b.1) && decide (a.2 < b.2))
def mlt (a b : Mk) : Bool := bytesLess a.1.toList b.1.toList || (decide (a.1 = b.1) && dlt a.2 b.2)
theorem dlt_strict : Strict dlt := by
  refine ⟨fun a => ?_, fun a b c => ?_, fun a b => ?_⟩
  · simp [dlt]
  · simp only [dlt, Bool.or_eq_true, decide_eq_true_eq, Bool.and_eq_true]; omega
  · intro h hne
    obtain ⟨a1, a2⟩ := a
    obtain ⟨b1, b2⟩ := b
    simp only [dlt, Bool.or_eq_false_iff, decide_eq_false_iff_not, Bool.and_eq_false_iff, Bool.or_eq_true, decide_eq_true_eq, Bool.and_eq_true] at h ⊢
    have : ¬ (a1 = b1 ∧ a2 = b2) := fun e => hne (by rw [e.1, e.2])
    omega
theorem mlt_strict : Strict mlt := by
  refine ⟨fun a => ?_, fun a b c h1 h2 => ?_, fun a b h hne => ?_⟩
  · simp [mlt, Bm.less_irrefl, dlt_strict.1]
  · simp only [mlt, Bool.or_eq_true, Bool.and_eq_true, decide_eq_true_eq] at h1 h2 ⊢
    rcases h1 with h1 | ⟨e1, h1⟩
    · rcases h2 with h2 | ⟨e2, h2⟩
      · exact Or.inl (Bm.less_trans h1 h2)
      · exact Or.inl (by rw [← e2]; exact h1)
    · rcases h2 with h2 | ⟨e2, h2⟩
      · exact Or.inl (by rw [e1]; exact h2)
      · exact Or.inr ⟨e1.trans e2, dlt_strict.2.1 _ _ _ h1 h2⟩
  · obtain ⟨pa, da⟩ := a
    obtain ⟨pb, db⟩ := b
    simp only [mlt, Bool.or_eq_false_iff, Bool.and_eq_false_iff, decide_eq_false_iff_not, Bool.or_eq_true, Bool.and_eq_true, decide_eq_true_eq] at h ⊢
    obtain ⟨h1, h2⟩ := h
    by_cases e : pa = pb
    · subst e
      refine Or.inr ⟨rfl, ?_⟩
      rcases h2 with h2 | h2
      · exact absurd rfl h2
      · exact dlt_strict.2.2 _ _ h2 (fun e => hne (by rw [e]))
    · exact Or.inl (Bm.less_total h1 (fun e2 => e (Bm.bytes_inj e2)))

/- faults -/
def dotE (who n : Int) : Int := if who < 1 ∨ 8 < who ∨ n < 1 ∨ 9999 < n then 1 else 0
def markE (m : Mk) : Int := if Pm.chk m.1.toList ≠ 0 then Pm.chk m.1.toList else dotE m.2.1 m.2.2
def goesM : Option Mk → List Mk → Int
  | _, [] => 0
  | a, m :: l => if markE m ≠ 0 then markE m else if (match a with | none => true | some x => mlt x m) = false then 7 else goesM (some m) l
def marksE (l : List Mk) : Int := if 40 < l.length then 4 else goesM none l
theorem goesM_zero : ∀ {l : List Mk} {a : Option Mk}, goesM a l = 0 ↔ (∀ m ∈ l, markE m = 0) ∧ (∀ x, a = some x → ∀ m ∈ l, mlt x m = true) ∧ Rise mlt l
  | [], a => by simp [goesM, Rise]
  | m :: l, a => by
    unfold goesM
    by_cases h1 : markE m = 0
    · rw [if_neg (by simpa using h1)]
      cases h2 : (match a with | none => true | some x => mlt x m)
      · rw [if_pos rfl]
        constructor
        · intro h; exact absurd h (by decide)
        · rintro ⟨_, g2, _⟩
          cases a with
          | none => simp at h2
          | some x => have := g2 x rfl m (List.mem_cons_self ..); simp only at h2; rw [h2] at this; cases this
      · rw [if_neg (by simp), goesM_zero]
        constructor
        · rintro ⟨g1, g2, g3⟩
          have g2' := g2 m rfl
          refine ⟨?_, ?_, List.pairwise_cons.2 ⟨g2', g3⟩⟩
          · intro y hy
            rcases List.mem_cons.1 hy with rfl | hy
            · exact h1
            · exact g1 y hy
          · rintro x rfl y hy
            simp only at h2
            rcases List.mem_cons.1 hy with rfl | hy
            · exact h2
            · exact mlt_strict.2.1 _ _ _ h2 (g2' y hy)
        · rintro ⟨g1, g2, g3⟩
          have g4 := List.pairwise_cons.1 g3
          exact ⟨fun y hy => g1 y (List.mem_cons_of_mem _ hy), fun x e y hy => by injection e with e; subst e; exact g4.1 y hy, g4.2⟩
    · rw [if_pos h1]
      constructor
      · intro h; exact absurd h h1
      · rintro ⟨g1, _, _⟩; exact g1 m (List.mem_cons_self ..)
theorem marksE_zero {l : List Mk} : marksE l = 0 ↔ l.length ≤ 40 ∧ (∀ m ∈ l, markE m = 0) ∧ Rise mlt l := by
  unfold marksE
  by_cases h : 40 < l.length
  · rw [if_pos h]; constructor
    · intro h2; omega
    · rintro ⟨h2, _⟩; omega
  · rw [if_neg h, goesM_zero]
    constructor
    · rintro ⟨a, _, b⟩; exact ⟨by omega, a, b⟩
    · rintro ⟨_, a, b⟩; exact ⟨a, (fun x e => by cases e), b⟩

end Cm
end Go.Proofs.YtcmoajlcmeimiaaDoor
