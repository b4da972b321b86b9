/- What one lacks of ops: plain mathematics. No program is named here. -/
import Derived.Test.YthalakfphecflaaGreatDoorUm
import Derived.Test.YthalakfphecflaaGreatDoorJ9
namespace Go.Proofs.YthalakfphecflaaGreatDoor
namespace Aa
set_option linter.unusedVariables false
open Cm Om Hm Um

def lacks (v : List Int) (o : Ox) : Bool := !decide (o.1.2 ≤ v.getD (o.1.1 - 1).toNat 0)
def lackL (l : List Ox) (v : List Int) : List Ox := l.filter (lacks v)
def lackE (l : List Ox) (v : List Int) : Int := if Dm.vecE v ≠ 0 then Dm.vecE v else packE l
theorem take_next {l : List Ox} {k : Nat} (hk : k < l.length) : l.take (k + 1) = l.take k ++ [l.getD k oz] := by
  rw [List.take_add_one, List.getD_eq_getElem?_getD, List.getElem?_eq_getElem hk]; rfl
theorem lack_step {l : List Ox} {v : List Int} {k : Nat} (hk : k < l.length) : lackL (l.take (k + 1)) v = lackL (l.take k) v ++ (if lacks v (l.getD k oz) then [l.getD k oz] else []) := by
  unfold lackL
  rw [take_next hk, List.filter_append]
  congr 1
  generalize l.getD k oz = x
  cases h : lacks v x with
  | true => rw [List.filter_cons_of_pos h]; rfl
  | false => rw [List.filter_cons_of_neg (by rw [h]; decide)]; rfl
theorem lack_len (l : List Ox) (v : List Int) : (lackL l v).length ≤ l.length := List.length_filter_le _ _
theorem lack_mem {l : List Ox} {v : List Int} {o : Ox} (h : o ∈ lackL l v) : o ∈ l := (List.mem_filter.1 h).1
theorem lack_kn {S : Dq} {o : Ox} : lacks S.known o = !decide (o.1.2 ≤ kn S o.1.1) := rfl
theorem lack_first {l : List Ox} {k : Nat} (hk : k < l.length) (h : ∀ o ∈ l.take k, opE o = 0) (h9 : opE (l.getD k oz) ≠ 0) : firstE l = opE (l.getD k oz) := by
  have e : l = l.take k ++ l.getD k oz :: l.drop (k + 1) := by
    rw [List.getD_eq_getElem?_getD, List.getElem?_eq_getElem hk]
    show l = l.take k ++ l[k] :: l.drop (k + 1)
    rw [← List.drop_eq_getElem_cons hk, List.take_append_drop]
  obtain ⟨x, hx⟩ : ∃ x, x = l.getD k oz := ⟨_, rfl⟩
  rw [← hx] at e h9 ⊢
  have hf : l.find? (fun o => decide (opE o ≠ 0)) = some x := by
    rw [e, List.find?_append, List.find?_eq_none.2 (fun o ho => by simpa using h o ho), Option.none_or, List.find?_cons_of_pos (by simpa using h9)]
  unfold firstE
  rw [hf]

/- how many are new, up to the first error -/
def cntN : Dq → List Ox → Int
  | _, [] => 0
  | S, o :: r => if apE S o ≠ 0 then 0 else (if isNew S o then 1 else 0) + cntN (apS S o) r
theorem cntN_append : ∀ (L M : List Ox) (S : Dq), runE S L = 0 → cntN S (L ++ M) = cntN S L + cntN (runS S L) M
  | [], M, S, _ => by simp [cntN, runS]
  | o :: L, M, S, h => by
    by_cases h0 : apE S o = 0
    · have h1 : ¬ apE S o ≠ 0 := by simpa using h0
      simp only [runE, if_neg h1] at h
      simp only [List.cons_append, cntN, runS, if_neg h1]
      rw [cntN_append L M _ h]; omega
    · simp only [runE, if_pos h0] at h; exact absurd h h0
theorem cntN_go {L : List Ox} {S : Dq} {k : Nat} (hk : k < L.length) (h : runE S (L.take k) = 0) (h9 : apE (runS S (L.take k)) (L.getD k oz) = 0) : cntN S (L.take (k + 1)) = cntN S (L.take k) + (if isNew (runS S (L.take k)) (L.getD k oz) then 1 else 0) := by
  rw [take_next hk, cntN_append _ _ _ h]
  simp only [cntN, if_neg (show ¬ apE (runS S (L.take k)) (L.getD k oz) ≠ 0 by simpa using h9)]
  omega
def takeN (S : Dq) (L : List Ox) : Int := if runE S L ≠ 0 then 0 else cntN S L

/- two that have what the other one has -/
def b1E (A B : Dq) : Int := runE B (lackL A.ops B.known)
def b1S (A B : Dq) : Dq := runS B (lackL A.ops B.known)
/- what a parcel has is applied -/
def opnL (s : ByteArray) : List Ox := (unpB s.toList).getD []
def opnE (S : Dq) (s : ByteArray) : Int := if (unpB s.toList).isSome then runE S (opnL s) else 2
def opnN (S : Dq) (s : ByteArray) : Int := if (unpB s.toList).isSome then takeN S (opnL s) else 0
theorem opn_right (s : ByteArray) : ∀ x ∈ opnL s, opE x = 0 := by
  unfold opnL
  cases h : unpB s.toList with
  | none => intro x hx; cases hx
  | some l => exact (packE_zero.1 (unpB_iff.1 h).1).2

end Aa
end Go.Proofs.YthalakfphecflaaGreatDoor
