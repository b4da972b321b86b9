/- More plain mathematics of places. No program is named here. -/
import Derived.Test.YtekcjhembcdgfaaDoorPm
namespace Go.Proofs.YtekcjhembcdgfaaDoor
namespace Pm

theorem stem_may {t a b : List UInt8} (h : stem t a b = true) : may t a b = true := by
  unfold stem at h; unfold may
  simp only [Bool.and_eq_true] at h
  rw [h.1.1]; rfl
theorem letters_length : letters.length = 26 := by simp [letters]
theorem ext_length (h : List UInt8) : (ext h).length = 26 := by simp [ext, letters]
theorem ext_getElem? (h : List UInt8) (j : Nat) (hj : j < 26) : (ext h)[j]? = some (h ++ [UInt8.ofNat (97 + j)]) := by
  simp [ext, letters, hj]
theorem cand_start (o : List (List UInt8)) : cand o 0 0 = [] := by simp [cand, exts]
theorem cand_step (o : List (List UInt8)) (k j : Nat) (hj : j < 26) : cand o k (j + 1) = cand o k j ++ [o.getD k [] ++ [UInt8.ofNat (97 + j)]] := by
  unfold cand
  rw [List.take_add_one, ext_getElem? _ _ hj, List.append_assoc]; rfl
theorem cand_row (o : List (List UInt8)) (k : Nat) (hk : k < o.length) : cand o k 26 = cand o (k + 1) 0 := by
  unfold cand exts
  have e1 : (ext (o.getD k [])).take 26 = ext (o.getD k []) := List.take_of_length_le (by rw [ext_length]; exact Nat.le_refl _)
  have e2 : o.take (k + 1) = o.take k ++ [o.getD k []] := by
    rw [List.take_add_one, List.getD_eq_getElem?_getD, List.getElem?_eq_getElem hk]; rfl
  rw [e1, e2, List.flatMap_append]
  simp
theorem cand_end (o : List (List UInt8)) : cand o o.length 0 = exts o := by
  unfold cand; simp
theorem cand_le (o : List (List UInt8)) (k j : Nat) : (cand o k j).length ≤ 26 * k + j := by
  unfold cand exts
  rw [List.length_append, List.length_take]
  have h : ∀ l : List (List UInt8), (l.flatMap ext).length = 26 * l.length := by
    intro l
    induction l with
    | nil => rfl
    | cons x r ih => rw [List.flatMap_cons, List.length_append, ih, ext_length, List.length_cons]; omega
  rw [h, List.length_take]; omega

end Pm
end Go.Proofs.YtekcjhembcdgfaaDoor
