/- The plain mathematics of edits: which ops an edit is, and what they come to. No program is named here. -/
import Derived.Test.YtpoijhfojdmdpaaGreatDoorJ9
import Derived.Test.YtpoijhfojdmdpaaGreatDoorP1
namespace Go.Proofs.YtpoijhfojdmdpaaGreatDoor
namespace Um
set_option linter.unusedVariables false
open Cm Om Hm
open Op (bytesLess)
open Bm (Leaf none0)

/- the places of what is seen -/
/- the leaf that stands next behind the letter ahead of an offset; the places on both sides -/
/- a place between the two sides is in no leaf, and would stand just there -/
/- places one behind the other -/
/- the ops of an insert -/
/- the ops of a delete, a split, a fuse -/
/- ops that are done one behind the other, up to the first error -/
def runE : Dq → List Ox → Int
  | _, [] => 0
  | S, o :: r => if apE S o ≠ 0 then apE S o else runE (apS S o) r
def runS : Dq → List Ox → Dq
  | S, [] => S
  | S, o :: r => if apE S o ≠ 0 then S else runS (apS S o) r
theorem run_append : ∀ (L M : List Ox) (S : Dq), runE S (L ++ M) = (if runE S L ≠ 0 then runE S L else runE (runS S L) M) ∧ runS S (L ++ M) = (if runE S L ≠ 0 then runS S L else runS (runS S L) M)
  | [], M, S => by simp [runE, runS]
  | o :: L, M, S => by
    by_cases h : apE S o = 0
    · have := run_append L M (apS S o)
      simp only [List.cons_append, runE, runS, if_neg (show ¬ apE S o ≠ 0 by simpa using h)]
      exact this
    · simp [runE, runS, h]
theorem take_op {l : List Ox} {k : Nat} (hk : k < l.length) : l.take (k + 1) = l.take k ++ [l.getD k oz] := by
  rw [List.take_add_one, List.getD_eq_getElem?_getD, List.getElem?_eq_getElem hk]; rfl
theorem run_go {L : List Ox} {S : Dq} {k : Nat} (hk : k < L.length) (h : runE S (L.take k) = 0) : runE S (L.take (k + 1)) = apE (runS S (L.take k)) (L.getD k oz) ∧ (apE (runS S (L.take k)) (L.getD k oz) = 0 → runS S (L.take (k + 1)) = apS (runS S (L.take k)) (L.getD k oz)) := by
  rw [take_op hk]
  obtain ⟨h1, h2⟩ := run_append (L.take k) [L.getD k oz] S
  rw [h1, h2]
  simp only [if_neg (show ¬ runE S (L.take k) ≠ 0 by simpa using h), runE, runS]
  refine ⟨?_, fun h9 => by rw [if_neg (by simpa using h9)]⟩
  by_cases h9 : apE (runS S (L.take k)) (L.getD k oz) = 0
  · rw [if_neg (by simpa using h9), h9]
  · rw [if_pos h9]
theorem run_stop {L : List Ox} {S : Dq} {k : Nat} (hk : k < L.length) (h : runE S (L.take k) = 0) (h9 : apE (runS S (L.take k)) (L.getD k oz) ≠ 0) : runE S L = apE (runS S (L.take k)) (L.getD k oz) ∧ runS S L = runS S (L.take k) := by
  have e : L = L.take k ++ (L.getD k oz :: L.drop (k + 1)) := by
    rw [List.getD_eq_getElem?_getD, List.getElem?_eq_getElem hk]
    simp
  obtain ⟨h1, h2⟩ := run_append (L.take k) (L.getD k oz :: L.drop (k + 1)) S
  rw [← e] at h1 h2
  rw [h1, h2]
  simp only [if_neg (show ¬ runE S (L.take k) ≠ 0 by simpa using h), runE, runS, if_pos h9]
  exact ⟨trivial, trivial⟩
theorem stay_wrong {S : Dq} {o : Ox} (h : apE S o ≠ 0) : apS S o = S := by
  unfold apS
  cases hn : isNew S o with
  | false => rfl
  | true =>
    obtain ⟨h0, hk, hf, hd⟩ := isNew_iff.1 hn
    exfalso; apply h
    unfold apE
    rw [if_neg (by simpa using h0), if_neg (by omega), if_neg (by omega), if_neg (by omega)]
    exact hd
/- ops of one author, with the next dots -/
/- the places of an insert are in no leaf of the book -/
end Um
end Go.Proofs.YtpoijhfojdmdpaaGreatDoor
