/- Docs in a row, each with blocks of its own: while one changes, the others stay. -/
import Derived.Test.YthalakfphecflaaGreatDoorHc
import Derived.Test.YthalakfphecflaaGreatDoorJ10
namespace Go.Proofs.YthalakfphecflaaGreatDoor
namespace Hi
set_option linter.unusedVariables false
open Go.ChangeShapes Go.WideShapes Go.ChangeAt Go.RowKit Cm Om Hm Ia Aa Hc

/- a kind of docs in memory: the program's, or the reference's -/
structure Kind where
  A : World → Nat → Dq → (Nat → Prop) → Prop
  lt : ∀ {w : World} {E : Nat} {S : Dq} {F : Nat → Prop}, A w E S F → ∀ g, F g → g < w.heap.size
  stay : ∀ {w w' : World} {E : Nat} {S : Dq} {F : Nat → Prop}, A w E S F → Stay F w w' → w.heap.size ≤ w'.heap.size → A w' E S F
def docK : Kind := ⟨DocAt, fun h => h.lt, fun h hs hz => h.stay hs hz⟩
def upd {α : Type} (f : Nat → α) (i : Nat) (x : α) : Nat → α := fun j => if j = i then x else f j
theorem upd_same {α : Type} (f : Nat → α) (i : Nat) (x : α) : upd f i x i = x := by unfold upd; rw [if_pos rfl]
theorem upd_other {α : Type} (f : Nat → α) {i j : Nat} (x : α) (h : j ≠ i) : upd f i x j = f j := by unfold upd; rw [if_neg h]
/- n docs: doc i at block E i, its own blocks F i -/
structure Rowd (K : Kind) (w : World) (n : Nat) (E : Nat → Nat) (S : Nat → Dq) (F : Nat → Nat → Prop) : Prop where
  at' : ∀ i, i < n → K.A w (E i) (S i) (F i)
  apart : ∀ i j, i < n → j < n → i ≠ j → ∀ g, F i g → ¬ F j g
theorem Rowd.none (K : Kind) (w : World) (E : Nat → Nat) (S : Nat → Dq) (F : Nat → Nat → Prop) : Rowd K w 0 E S F := ⟨fun i hi => absurd hi (Nat.not_lt_zero i), fun i _ hi => absurd hi (Nat.not_lt_zero i)⟩
/- the blocks of all of them -/
def All (n : Nat) (F : Nat → Nat → Prop) (g : Nat) : Prop := ∃ i, i < n ∧ F i g
theorem Rowd.lt {K : Kind} {w : World} {n : Nat} {E : Nat → Nat} {S : Nat → Dq} {F : Nat → Nat → Prop} (h : Rowd K w n E S F) : ∀ g, All n F g → g < w.heap.size := by
  rintro g ⟨i, hi, hg⟩
  exact K.lt (h.at' i hi) g hg
theorem Rowd.stay {K : Kind} {w w' : World} {n : Nat} {E : Nat → Nat} {S : Nat → Dq} {F : Nat → Nat → Prop} (h : Rowd K w n E S F) (hs : Stay (All n F) w w') (hz : w.heap.size ≤ w'.heap.size) : Rowd K w' n E S F :=
  ⟨fun i hi => K.stay (h.at' i hi) (fun g hg => hs g ⟨i, hi, hg⟩) hz, h.apart⟩
theorem Rowd.below {K : Kind} {w w' : World} {n : Nat} {E : Nat → Nat} {S : Nat → Dq} {F : Nat → Nat → Prop} (h : Rowd K w n E S F) (hb : Below w.heap.size w w') : Rowd K w' n E S F := h.stay (fun g hg => hb.block g (h.lt g hg)) hb.size
theorem Rowd.chg {K : Kind} {w w' : World} {n : Nat} {E : Nat → Nat} {S : Nat → Dq} {F : Nat → Nat → Prop} {H : Nat → Prop} (h : Rowd K w n E S F) (hc : Chg H w w') (hd : ∀ g, All n F g → ¬ H g) : Rowd K w' n E S F := h.stay (hc.stay fun g hg => ⟨h.lt g hg, hd g hg⟩) hc.size
/- one of them changes -/
theorem Rowd.turn {K : Kind} {w w' : World} {n : Nat} {E : Nat → Nat} {S : Nat → Dq} {F : Nat → Nat → Prop} (h : Rowd K w n E S F) {i : Nat} (hi : i < n) {T : Dq} {G : Nat → Prop} (hA : K.A w' (E i) T G) (hc : Chg (F i) w w') (hG : ∀ g, G g → F i g ∨ w.heap.size ≤ g) : Rowd K w' n E (upd S i T) (upd F i G) := by
  refine ⟨fun j hj => ?_, fun a b ha hb hab g => ?_⟩
  · by_cases e : j = i
    · subst e; rw [upd_same, upd_same]; exact hA
    · rw [upd_other _ _ e, upd_other _ _ e]
      exact K.stay (h.at' j hj) (hc.stay fun g hg => ⟨K.lt (h.at' j hj) g hg, h.apart j i hj hi e g hg⟩) hc.size
  · by_cases ea : a = i
    · subst ea
      rw [upd_same, upd_other _ _ (Ne.symm hab)]
      intro hg hb2
      rcases hG g hg with e | e
      · exact h.apart a b ha hb hab g e hb2
      · have := K.lt (h.at' b hb) g hb2; omega
    · rw [upd_other _ _ ea]
      by_cases eb : b = i
      · subst eb
        rw [upd_same]
        intro hg hb2
        rcases hG g hb2 with e | e
        · exact h.apart a b ha hb hab g hg e
        · have := K.lt (h.at' a ha) g hg; omega
      · rw [upd_other _ _ eb]
        exact h.apart a b ha hb hab g
theorem Rowd.turn_all {w : World} {n : Nat} {F : Nat → Nat → Prop} {i : Nat} (hi : i < n) {G : Nat → Prop} (hG : ∀ g, G g → F i g ∨ w.heap.size ≤ g) : ∀ g, All n (upd F i G) g → All n F g ∨ w.heap.size ≤ g := by
  rintro g ⟨j, hj, hg⟩
  by_cases e : j = i
  · subst e
    rw [upd_same] at hg
    rcases hG g hg with e | e
    · exact Or.inl ⟨j, hj, e⟩
    · exact Or.inr e
  · rw [upd_other _ _ e] at hg
    exact Or.inl ⟨j, hj, hg⟩
/- one more of them -/
theorem Rowd.push {K : Kind} {w w' : World} {n : Nat} {E : Nat → Nat} {S : Nat → Dq} {F : Nat → Nat → Prop} (h : Rowd K w n E S F) (hb : Below w.heap.size w w') {D : Nat} {T : Dq} {G : Nat → Prop} (hA : K.A w' D T G) (hG : ∀ g, G g → w.heap.size ≤ g) : Rowd K w' (n + 1) (upd E n D) (upd S n T) (upd F n G) := by
  have h' := h.below hb
  refine ⟨fun j hj => ?_, fun a b ha hb hab g => ?_⟩
  · by_cases e : j = n
    · subst e; rw [upd_same, upd_same, upd_same]; exact hA
    · rw [upd_other _ _ e, upd_other _ _ e, upd_other _ _ e]
      exact h'.at' j (by omega)
  · by_cases ea : a = n
    · subst ea
      rw [upd_same, upd_other _ _ (Ne.symm hab)]
      intro hg hb2
      have := hG g hg
      have := K.lt (h.at' b (by omega)) g hb2; omega
    · rw [upd_other _ _ ea]
      by_cases eb : b = n
      · subst eb
        rw [upd_same]
        intro hg hb2
        have := hG g hb2
        have := K.lt (h.at' a (by omega)) g hg; omega
      · rw [upd_other _ _ eb]
        exact h.apart a b (by omega) (by omega) hab g
/- the same docs, said otherwise -/
theorem Rowd.same {K : Kind} {w : World} {n : Nat} {E E' : Nat → Nat} {S T : Nat → Dq} {F : Nat → Nat → Prop} (h : Rowd K w n E S F) (he : ∀ i, i < n → E' i = E i) (hs : ∀ i, i < n → T i = S i) : Rowd K w n E' T F :=
  ⟨fun i hi => by rw [he i hi, hs i hi]; exact h.at' i hi, h.apart⟩

end Hi
end Go.Proofs.YthalakfphecflaaGreatDoor
