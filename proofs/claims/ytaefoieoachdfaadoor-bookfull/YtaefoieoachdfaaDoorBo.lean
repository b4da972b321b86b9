/- A book that is written one letter behind the other, up to three hundred. No program is named here. -/
import Derived.Test.YtaefoieoachdfaaDoorBn
namespace Go.Proofs.YtaefoieoachdfaaDoor
namespace Bm
set_option linter.unusedVariables false
open Op (bytesLess)

def plc (j : Nat) : ByteArray := ⟨#[UInt8.ofNat (98 + j / 25), UInt8.ofNat (98 + j % 25), 98]⟩
def full (n : Nat) : List Leaf := (List.range n).map fun j => (plc j, 120, false)
theorem plc_list (j : Nat) : (plc j).toList = [UInt8.ofNat (98 + j / 25), UInt8.ofNat (98 + j % 25), 98] := by
  rw [ByteArray.toList_eq]; rfl
theorem nat_of {n : Nat} (h : n < 256) : (UInt8.ofNat n).toNat = n := by rw [UInt8.toNat_ofNat']; omega
theorem plc_chk {j : Nat} (h : j < 400) : Pm.chk (plc j).toList = 0 := by
  have h1 : (UInt8.ofNat (98 + j / 25)).toNat = 98 + j / 25 := nat_of (by omega)
  have h2 : (UInt8.ofNat (98 + j % 25)).toNat = 98 + j % 25 := nat_of (by omega)
  rw [plc_list]
  unfold Pm.chk
  rw [if_neg (by simp), if_neg (by simp)]
  have e1 : ([UInt8.ofNat (98 + j / 25), UInt8.ofNat (98 + j % 25), 98].all Pm.isLet) = true := by
    simp only [List.all_cons, List.all_nil, Bool.and_true, Bool.and_eq_true]
    refine ⟨?_, ?_, by decide⟩
    · unfold Pm.isLet; rw [decide_eq_true_eq, h1]; omega
    · unfold Pm.isLet; rw [decide_eq_true_eq, h2]; omega
  rw [e1]
  have e2 : (([UInt8.ofNat (98 + j / 25), UInt8.ofNat (98 + j % 25), 98] : List UInt8).dropLast.getLast? == some 97) = false := by
    show ((some (UInt8.ofNat (98 + j % 25)) : Option UInt8) == some 97) = false
    rw [beq_eq_false_iff_ne]
    intro e
    injection e with e
    have : (UInt8.ofNat (98 + j % 25)).toNat = 97 := by rw [e]; rfl
    omega
  rw [e2]
  rfl
theorem plc_less {i j : Nat} (h : i < j) (hj : j < 400) : bytesLess (plc i).toList (plc j).toList = true := by
  have h1 : (UInt8.ofNat (98 + j / 25)).toNat = 98 + j / 25 := nat_of (by omega)
  have h2 : (UInt8.ofNat (98 + j % 25)).toNat = 98 + j % 25 := nat_of (by omega)
  have h3 : (UInt8.ofNat (98 + i / 25)).toNat = 98 + i / 25 := nat_of (by omega)
  have h4 : (UInt8.ofNat (98 + i % 25)).toNat = 98 + i % 25 := nat_of (by omega)
  rw [plc_list, plc_list]
  simp only [bytesLess, Bool.or_eq_true, decide_eq_true_eq, Bool.and_eq_true, beq_iff_eq, UInt8.lt_iff_toNat_lt, h1, h2, h3, h4]
  by_cases e : i / 25 = j / 25
  · right
    refine ⟨by rw [e], Or.inl ?_⟩
    have := Nat.div_add_mod i 25
    have := Nat.div_add_mod j 25
    rw [e] at *
    omega
  · left
    have := Nat.div_le_div_right (c := 25) (Nat.le_of_lt h)
    omega
theorem full_length (n : Nat) : (full n).length = n := by simp [full]
theorem full_get {n j : Nat} (h : j < n) : (full n).getD j none0 = (plc j, 120, false) := by
  unfold full
  rw [List.getD_eq_getElem?_getD, List.getElem?_map, List.getElem?_range h]; rfl
theorem full_rise {n : Nat} (h : n ≤ 400) : Rise (full n) := by
  refine List.pairwise_iff_getElem.2 fun i j hi hj hij => ?_
  rw [full_length] at hi hj
  have := plc_less hij (by omega)
  simp only [full, List.getElem_map, List.getElem_range]
  exact this
theorem full_book {n : Nat} (h : n ≤ 300) : bookE (full n) = 0 := by
  refine bookE_zero.2 ⟨by rw [full_length]; exact h, ?_, full_rise (by omega)⟩
  intro x hx
  obtain ⟨j, hj, rfl⟩ := List.mem_map.1 hx
  have hj2 := List.mem_range.1 hj
  exact leafE_zero.2 ⟨plc_chk (by omega), Or.inr rfl, Or.inl (show (120 : Int) ≠ 0 by decide)⟩
theorem full_ahead {n : Nat} (h : n < 400) : ahd (full n) (plc n).toList = n := by
  refine ahead_eq (full_rise (by omega)) (by rw [full_length]; exact Nat.le_refl _) (fun j hj => ?_) (fun j h1 h2 => ?_)
  · rw [full_get hj]; exact plc_less hj h
  · rw [full_length] at h2; omega
theorem full_has {n : Nat} (h : n < 400) : has (full n) (plc n).toList = false := by
  unfold has; rw [full_ahead h, full_length]; simp
theorem full_with {n i : Nat} (h : n ≤ 300) (hi : i < 400) : withE (full n) (plc i) = 0 := withE_zero.2 ⟨full_book h, plc_chk hi⟩
theorem full_leafAt {n : Nat} (h : n < 400) : leafAt (full n) (plc n) = (plc n, 0, false) := by
  unfold leafAt; rw [full_has h]; rfl
theorem full_write {n : Nat} (h : n < 300) : writeE (full n) (plc n) 120 = 0 ∧ writeL (full n) (plc n) 120 = full (n + 1) := by
  have e : writeE (full n) (plc n) 120 = 0 := by
    refine writeE_zero.2 ⟨full_with (by omega) (by omega), wrE_zero.2 ⟨rfl, ?_, putE_zero.2 (Or.inr (by rw [full_length]; exact h))⟩⟩
    rw [full_leafAt (by omega)]; rfl
  refine ⟨e, ?_⟩
  rw [(write_book e).2]
  unfold putL wrX
  rw [full_leafAt (by omega), full_ahead (by omega), full_has (by omega)]
  have e1 : (full n).take n = full n := List.take_of_length_le (by rw [full_length]; exact Nat.le_refl _)
  have e2 : (full n).drop n = [] := List.drop_of_length_le (by rw [full_length]; exact Nat.le_refl _)
  rw [e1]
  simp only [Bool.false_eq_true, if_false]
  rw [e2]
  unfold full
  rw [List.range_succ, List.map_append]
  rfl
theorem full_no {i : Nat} (h1 : 300 ≤ i) (h2 : i < 400) : writeE (full 300) (plc i) 120 = 4 ∧ writeL (full 300) (plc i) 120 = [] := by
  have hh : has (full 300) (plc i).toList = false := by
    cases h : has (full 300) (plc i).toList
    · rfl
    · obtain ⟨x, hx, e⟩ := (has_iff (full_rise (by omega))).1 h
      obtain ⟨j, hj, rfl⟩ := List.mem_map.1 hx
      have hj2 := List.mem_range.1 hj
      have := plc_less (show j < i by omega) h2
      rw [show (plc j).toList = (plc i).toList from e, less_irrefl] at this
      cases this
  have hl : leafAt (full 300) (plc i) = (plc i, 0, false) := by unfold leafAt; rw [hh]; rfl
  have e : writeE (full 300) (plc i) 120 = 4 := by
    unfold writeE
    rw [if_neg (by rw [full_with (by omega) h2]; decide)]
    unfold wrE
    have ec : clash (plc i, 0, false) 120 = false := rfl
    rw [if_neg (by decide), hl, ec, if_neg (by decide)]
    unfold putE
    rw [if_pos ⟨hh, by rw [full_length]; exact Nat.le_refl _⟩]
  exact ⟨e, by unfold writeL; rw [e]; rfl⟩
theorem text_all : ∀ {l : List Leaf}, (∀ x ∈ l, isS x = true) → (text l).length = l.length
  | [], _ => rfl
  | x :: l, h => by
    rw [text_cons, h x (List.mem_cons_self ..), if_pos rfl, List.length_cons, List.length_cons, text_all fun y hy => h y (List.mem_cons_of_mem _ hy)]
theorem full_seen {n : Nat} : ∀ x ∈ full n, isS x = true := by
  intro x hx
  obtain ⟨j, hj, rfl⟩ := List.mem_map.1 hx
  rfl
theorem full_strike {n j : Nat} (h : n ≤ 300) (hj : j < n) : strikeE (full n) (plc j) = 0 ∧ (strikeL (full n) (plc j)).length = n ∧ bookE (strikeL (full n) (plc j)) = 0 ∧ (text (strikeL (full n) (plc j))).length = n - 1 := by
  have hr := full_rise (show n ≤ 400 by omega)
  have hm : (plc j, 120, false) ∈ full n := List.mem_map.2 ⟨j, List.mem_range.2 hj, rfl⟩
  have hh : has (full n) (plc j).toList = true := (has_iff hr).2 ⟨_, hm, rfl⟩
  have e : strikeE (full n) (plc j) = 0 := strikeE_zero.2 ⟨full_with h (by omega), putE_zero.2 (Or.inl hh)⟩
  have hb := strike_book e
  refine ⟨e, ?_, hb.1, ?_⟩
  · rw [hb.2, put_length hr, hh, if_pos rfl, full_length]
  · rw [hb.2]
    have hu := hh
    unfold has at hu; rw [Bool.and_eq_true, decide_eq_true_eq, full_length] at hu
    unfold putL
    rw [hh, if_pos rfl, text_append, text_cons]
    have e1 : isS (stX (full n) (plc j)) = false := by unfold isS stX; simp
    rw [e1]
    simp only [Bool.false_eq_true, if_false]
    rw [List.length_append, text_all fun x hx => full_seen x (List.mem_of_mem_take hx), text_all fun x hx => full_seen x (List.mem_of_mem_drop hx), List.length_take, List.length_drop, full_length]
    omega

end Bm
end Go.Proofs.YtaefoieoachdfaaDoor
