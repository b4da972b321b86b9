/- Stretches, more: where an offset is, where a place is; which errors. Plain mathematics. -/
import Derived.Test.YtllcmfbkingfdaaDoorSb
import Derived.Test.YtllcmfbkingfdaaDoorJ6
namespace Go.Proofs.YtllcmfbkingfdaaDoor
namespace Sd
set_option linter.unusedVariables false
open Op (bytesLess)
open Bm (Leaf text ahd none0 isS bookE)
open Cm (Mk mlt placesL marksE marksE_zero markE)
open Na Nr Ns Sm Sb

theorem names_at {m : List Mk} {k : Nat} {x : Mk} (h : m[k]? = some x) : (names m).getD k noS = x.1 := by
  unfold names
  rw [List.getD_eq_getElem?_getD, List.getElem?_map, h]; rfl
theorem comp_places (m : List Mk) : ∀ k, k ≤ m.length → compTo (names m) k = placesL (m.take k)
  | 0, _ => by rw [List.take_zero]; rfl
  | 1, h => by
    have e : m[0]? = some (m[0]'(by omega)) := List.getElem?_eq_getElem _
    have e1 : m.take 1 = [m[0]'(by omega)] := by rw [List.take_add_one, e]; rfl
    rw [compTo, if_pos (Or.inl rfl), names_at e, e1]; rfl
  | k + 2, h => by
    have ih := comp_places m (k + 1) (by omega)
    obtain ⟨x, hx⟩ : ∃ x, m[k]? = some x := ⟨_, List.getElem?_eq_getElem (by omega)⟩
    obtain ⟨y, hy⟩ : ∃ y, m[k + 1]? = some y := ⟨_, List.getElem?_eq_getElem (by omega)⟩
    have e1 : m.take (k + 1) = m.take k ++ [x] := by rw [List.take_add_one, hx]; rfl
    have e2 : m.take (k + 1 + 1) = m.take k ++ [x] ++ [y] := by rw [List.take_add_one, hy, e1]; rfl
    rw [show k + 2 = k + 1 + 1 from rfl, compTo, ih, e2, places_snoc, ← e1, names_at hy, Nat.add_sub_cancel, names_at hx]
    by_cases h9 : x.1.toList = y.1.toList
    · rw [if_pos h9, if_neg]
      rintro (h8 | h8)
      · omega
      · exact h8 (Bm.bytes_inj h9.symm)
    · rw [if_neg h9, if_pos (Or.inr fun h8 => h9 (by rw [h8]))]
theorem placesOf_eq {m : List Mk} (h : marksE m = 0) : placesOf m = placesL m := by
  unfold placesOf
  rw [if_pos h, comp_places m m.length (Nat.le_refl _), List.take_length]
theorem places_len : ∀ (l : List Mk), (placesL l).length ≤ l.length
  | [] => by simp [placesL]
  | [a] => by simp [placesL]
  | a :: b :: l => by
    have ih := places_len (b :: l)
    rw [placesL]; split <;> simp at ih ⊢ <;> omega
theorem heads_len {m : List Mk} (h : marksE m = 0) : (heads m).length ≤ 41 := by
  have h1 := places_len m
  have h2 := (marksE_zero.1 h).1
  simp [heads]; omega
theorem places_chk {m : List Mk} (h : marksE m = 0) {p : ByteArray} (hp : p ∈ placesL m) : Pm.chk p.toList = 0 := by
  obtain ⟨_, h2, _⟩ := marksE_zero.1 h
  obtain ⟨x, hx, rfl⟩ := mem_places hp
  have h9 := h2 x hx
  unfold markE at h9
  split at h9
  · next h1 => exact absurd h9 h1
  · next h1 => simpa using h1

/- which errors -/
def dirE (l : List Leaf) (m : List Mk) : Int := if bookE l ≠ 0 then bookE l else marksE m
theorem dirE_zero {l : List Leaf} {m : List Mk} : dirE l m = 0 ↔ bookE l = 0 ∧ marksE m = 0 := by
  unfold dirE
  by_cases h : bookE l = 0
  · simp [h]
  · simp [h]
def textD (l : List Leaf) (m : List Mk) : ByteArray := if dirE l m = 0 then ⟨(text l).toArray⟩ else ⟨#[]⟩
def stD (l : List Leaf) (m : List Mk) : List Mk := if dirE l m = 0 then stretches l m else []

/- in which one an offset is -/
def locO (l : List Leaf) (m : List Mk) (o : Int) : Option Nat := (List.range (heads m).length).find? fun k => decide ((beg l (heads m) k : Int) ≤ o ∧ o < beg l (heads m) (k + 1))
def locE (l : List Leaf) (m : List Mk) (o : Int) : Int := if dirE l m ≠ 0 then dirE l m else if (locO l m o).isSome then 0 else 1
def locI (l : List Leaf) (m : List Mk) (o : Int) : Nat := if dirE l m = 0 then (locO l m o).getD 0 else 0
def locJ (l : List Leaf) (m : List Mk) (o : Int) : Int := if dirE l m = 0 then (match locO l m o with | some k => o - beg l (heads m) k | none => 0) else 0
theorem loc_in {l : List Leaf} {m : List Mk} {o : Int} {k : Nat} (h : locO l m o = some k) : k < (heads m).length ∧ (beg l (heads m) k : Int) ≤ o ∧ o < beg l (heads m) (k + 1) := by
  have h1 := List.find?_some h
  have h2 := List.mem_of_find?_eq_some h
  exact ⟨List.mem_range.1 h2, of_decide_eq_true h1⟩
theorem loc_is {l : List Leaf} {m : List Mk} (hr : Bm.Rise l) (hm : marksE m = 0) {o : Int} {k : Nat} (hk : k < (heads m).length) (h1 : (beg l (heads m) k : Int) ≤ o) (h2 : o < beg l (heads m) (k + 1)) : locO l m o = some k := by
  cases h : locO l m o with
  | none => exact absurd (decide_eq_true (And.intro h1 h2)) (List.find?_eq_none.1 h k (List.mem_range.2 hk))
  | some j =>
    obtain ⟨a1, a2, a3⟩ := loc_in h
    have e := loc_uniq hr hm (o := o.toNat) (i := j) (j := k) (by omega) (by omega) (by omega) (by omega)
    rw [e]
theorem loc_not {l : List Leaf} {m : List Mk} {o : Int} (h : ∀ k, k < (heads m).length → ¬ ((beg l (heads m) k : Int) ≤ o ∧ o < beg l (heads m) (k + 1))) : locO l m o = none := by
  refine List.find?_eq_none.2 fun k hk h9 => h k (List.mem_range.1 hk) (of_decide_eq_true h9)
theorem loc_out {l : List Leaf} {m : List Mk} {o : Int} (h : locO l m o = none) : o < 0 ∨ ((text l).length : Int) ≤ o := by
  rcases Int.lt_or_le o 0 with h0 | h0
  · exact Or.inl h0
  · rcases Int.lt_or_le o ((text l).length : Int) with h1 | h1
    · obtain ⟨k, k1, k2, k3⟩ := loc_some l m (o := o.toNat) (by omega)
      exact absurd (decide_eq_true (And.intro (show (beg l (heads m) k : Int) ≤ o by omega) (show o < (beg l (heads m) (k + 1) : Int) by omega))) (List.find?_eq_none.1 h k (List.mem_range.2 k1))
    · exact Or.inr h1

/- what is seen of a stretch -/
def sliE (l : List Leaf) (m : List Mk) (i : Int) : Int := if dirE l m ≠ 0 then dirE l m else if 0 ≤ i ∧ i < (heads m).length then 0 else 1
def sliR (l : List Leaf) (m : List Mk) (i : Int) : ByteArray := if sliE l m i = 0 then ⟨(sliceB l (heads m) i.toNat).toArray⟩ else ⟨#[]⟩

/- in which one a place is -/
def ofTo (H : List ByteArray) (p : ByteArray) : Nat → Nat
  | 0 => 0
  | k + 1 => if bytesLess p.toList (H.getD k ByteArray.empty).toList = true then ofTo H p k else k
def ofE (l : List Leaf) (m : List Mk) (p : ByteArray) : Int := if dirE l m ≠ 0 then dirE l m else Pm.chk p.toList
def ofR (l : List Leaf) (m : List Mk) (p : ByteArray) : Nat := if ofE l m p = 0 then ofTo (heads m) p (heads m).length else 0
theorem ofTo_lt (H : List ByteArray) (p : ByteArray) : ∀ k, 0 < k → ofTo H p k < k
  | 0, h => by omega
  | k + 1, _ => by
    rw [ofTo]; split
    · rcases Nat.eq_zero_or_pos k with h | h
      · subst h; exact Nat.lt_succ_self _
      · have := ofTo_lt H p k h; omega
    · omega
theorem ofTo_le (H : List ByteArray) (p : ByteArray) (k : Nat) : ofTo H p k ≤ k := by
  rcases Nat.eq_zero_or_pos k with h | h
  · subst h; exact Nat.le_refl _
  · have := ofTo_lt H p k h; omega
theorem ofTo_is (m : List Mk) (p : ByteArray) : IsOf (heads m) p (ofTo (heads m) p (heads m).length) := by
  have key : ∀ n, 0 < n → n ≤ (heads m).length → bytesLess p.toList ((heads m).getD (ofTo (heads m) p n) ByteArray.empty).toList = false ∧ ∀ j, ofTo (heads m) p n < j → j < n → bytesLess p.toList ((heads m).getD j ByteArray.empty).toList = true := by
    intro n
    induction n with
    | zero => intro h; omega
    | succ n ih =>
      intro _ hn
      rw [ofTo]
      by_cases h : bytesLess p.toList ((heads m).getD n ByteArray.empty).toList = true
      · rw [if_pos h]
        rcases Nat.eq_zero_or_pos n with h0 | h0
        · subst h0
          have e : (heads m).getD 0 ByteArray.empty = ByteArray.empty := rfl
          rw [e, empty_list, less_nil] at h; cases h
        · obtain ⟨i1, i2⟩ := ih h0 (by omega)
          refine ⟨i1, fun j h1 h2 => ?_⟩
          rcases Nat.lt_succ_iff_lt_or_eq.1 h2 with h9 | rfl
          · exact i2 j h1 h9
          · exact h
      · rw [if_neg h]
        exact ⟨by simpa using h, fun j h1 h2 => by omega⟩
  obtain ⟨k1, k2⟩ := key _ (heads_pos m) (Nat.le_refl _)
  exact ⟨ofTo_lt _ _ _ (heads_pos m), k1, k2⟩

end Sd
end Go.Proofs.YtllcmfbkingfdaaDoor
