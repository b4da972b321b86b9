/- Plain mathematics for writing and reading: lengths of what is joined, numbers one by one. No program is named here. -/
import Derived.Test.YtllcmfbkingfdaaGreatDoorDe
namespace Go.Proofs.YtllcmfbkingfdaaGreatDoor
namespace Dm
open Go.Lib

theorem join_len : ∀ (xs : List (List UInt8)), (∀ x ∈ xs, x.length ≤ 9) → (join xs [46]).length ≤ xs.length * 10
  | [], _ => by simp [join_nil]
  | [x], h => by rw [join_one]; have := h x (by simp); simp; omega
  | x :: y :: r, h => by
    have ih := join_len (y :: r) (fun z hz => h z (by simp [hz]))
    have := h x (by simp)
    rw [join_cons2]
    simp only [List.length_append, List.length_cons] at ih ⊢
    omega

theorem itoa_len {n : Int} (h0 : 0 ≤ n) (h9 : n ≤ 9999) : (itoa n).length ≤ 9 := by
  obtain ⟨u, rfl⟩ : ∃ u : Nat, n = u := ⟨n.toNat, by omega⟩
  rw [itoa_nat]
  have h := numO_dec (u := u) (by omega)
  unfold numO at h
  split at h
  · cases h
  · omega

theorem nums_all : ∀ (xs : List (List UInt8)), (∀ x ∈ xs, numO x ≠ none) → nums xs = some (xs.map fun x => (numO x).getD 0)
  | [], _ => rfl
  | x :: r, h => by
    have ih := nums_all r (fun z hz => h z (by simp [hz]))
    simp only [nums, List.map_cons]
    cases hx : numO x with
    | none => exact absurd hx (h x (by simp))
    | some n => simp only [ih, Option.map_some, Option.getD_some]

theorem nums_none : ∀ (xs : List (List UInt8)), (∃ x ∈ xs, numO x = none) → nums xs = none
  | [], h => by obtain ⟨x, hx, _⟩ := h; cases hx
  | x :: r, h => by
    simp only [nums]
    cases hx : numO x with
    | none => rfl
    | some n =>
      have ih : nums r = none := nums_none r (by
        obtain ⟨z, hz, e⟩ := h
        rcases List.mem_cons.1 hz with rfl | hz
        · rw [hx] at e; cases e
        · exact ⟨z, hz, e⟩)
      simp only [ih, Option.map_none]

theorem parse_bad {s : List UInt8} (h : ∃ x ∈ cut s, numO x = none) : parseE s = 2 ∧ parseV s = [] := by
  unfold parseE parseV; rw [nums_none _ h]; exact ⟨rfl, rfl⟩
theorem parse_all {s : List UInt8} (h : ∀ x ∈ cut s, numO x ≠ none) : parseE s = vecE ((cut s).map fun x => (numO x).getD 0) ∧ parseV s = if vecE ((cut s).map fun x => (numO x).getD 0) = 0 then (cut s).map (fun x => (numO x).getD 0) else [] := by
  unfold parseE parseV; rw [nums_all _ h]; exact ⟨rfl, rfl⟩

theorem numO_parts {l : List UInt8} {n : Int} (h : numO l = some n) : l.length ≤ 9 ∧ atoi l = some n ∧ 0 ≤ n ∧ itoa n = l := by
  unfold numO at h
  split at h
  · cases h
  · split at h
    · cases h
    · split at h
      · cases h
      · split at h
        · next h0 _ m hm h1 h2 => injection h with h; subst h; exact ⟨by omega, hm, by omega, h2⟩
        · cases h

theorem split_words (s : ByteArray) : (splitB ⟨#[46]⟩ 0 (countB s ⟨#[46]⟩) s).map (fun b => b.data.toList) = cut s.data.toList := by
  have h := splitB_data ⟨#[46]⟩ 0 (countB s ⟨#[46]⟩) s
  exact h.trans (split_cut _ _ (Nat.le_refl _))
theorem count_words (s : ByteArray) : countB s ⟨#[46]⟩ + 1 = (cut s.data.toList).length := count_cut s.data.toList
theorem cut_len : ∀ s : List UInt8, (cut s).length ≤ s.length + 1
  | [] => by simp [cut]
  | c :: r => by
    have := cut_len r
    have h2 := cut_ne r
    unfold cut
    split
    · simp; omega
    · rcases hc : cut r with _ | ⟨h, t⟩
      · exact absurd hc h2
      · rw [hc] at this; simp at this ⊢; omega

theorem print_len {v : List Int} (h : vecE v = 0) : (printT v).length ≤ 80 := by
  have hv := vecE_zero.1 h
  unfold printT printL
  rw [if_pos h]
  have := join_len (v.map itoa) (by intro x hx; obtain ⟨n, hn, rfl⟩ := List.mem_map.1 hx; exact itoa_len (hv.2 n hn).1 (hv.2 n hn).2)
  rw [List.length_map, hv.1] at this
  exact this
theorem cmp_bound (a b : List Int) : -1 ≤ cmpK a b ∧ cmpK a b ≤ 1 := by
  unfold cmpK cmpI
  split
  · split
    · decide
    · split
      · decide
      · split <;> decide
  · decide

theorem cut_word : ∀ (s : List UInt8), ∀ x ∈ cut s, x.length ≤ s.length
  | [], x, hx => by simp [cut] at hx; subst hx; simp
  | c :: r, x, hx => by
    unfold cut at hx
    split at hx
    · rcases List.mem_cons.1 hx with rfl | hx
      · simp
      · have := cut_word r x hx; simp; omega
    · rcases List.mem_cons.1 hx with rfl | hx
      · rcases hc : cut r with _ | ⟨h, t⟩
        · simp
        · have := cut_word r h (by rw [hc]; simp)
          simp; omega
      · have := cut_word r x (List.mem_of_mem_tail hx); simp; omega

end Dm
end Go.Proofs.YtllcmfbkingfdaaGreatDoor
