/- The search finds all stems of the least length, in order. No program is named here. -/
import Derived.Test.YtekcjhembcdgfaaDoorPr
namespace Go.Proofs.YtekcjhembcdgfaaDoor
namespace Pm
open Op (bytesLess)

theorem less_of_append (r : List UInt8) : ∀ {s b : List UInt8}, bytesLess (s ++ r) b = true → bytesLess s b = true
  | _, [], h => by simp [bytesLess] at h
  | [], _ :: _, _ => rfl
  | x :: s, y :: b, h => by
    simp only [List.cons_append, bytesLess, Bool.or_eq_true, decide_eq_true_eq, Bool.and_eq_true, beq_iff_eq] at h ⊢
    rcases h with h | ⟨h1, h2⟩
    · exact Or.inl h
    · exact Or.inr ⟨h1, less_of_append r h2⟩

/- what is inside has only beginnings that may grow -/
theorem may_begin {s r a b : List UInt8} (h : inside (s ++ r) a b = true) : may s a b = true := by
  unfold may
  cases hp : s.isPrefixOf a with
  | true => simp
  | false =>
    rw [Bool.or_false]
    simp only [inside, Bool.and_eq_true, Bool.not_eq_true', Bool.or_eq_false_iff, Bool.or_eq_true] at h ⊢
    obtain ⟨⟨h1, h2⟩, h3⟩ := h
    refine ⟨⟨?_, ?_⟩, ?_⟩
    · cases hl : bytesLess s a with
      | false => rfl
      | true => rw [less_apart r hl hp] at h1; cases h1
    · rw [beq_eq_false_iff_ne]
      intro e
      rw [e] at hp
      have : a.isPrefixOf a = true := List.isPrefixOf_iff_prefix.2 (List.prefix_refl a)
      rw [this] at hp; cases hp
    · rcases h3 with h3 | h3
      · exact Or.inl h3
      · exact Or.inr (less_of_append r h3)

theorem may_shorter {s r a b : List UInt8} (h : may (s ++ r) a b = true) : may s a b = true := by
  simp only [may, Bool.or_eq_true] at h
  rcases h with h | h
  · exact may_begin h
  · simp only [may, Bool.or_eq_true]
    right
    rw [List.isPrefixOf_iff_prefix] at h ⊢
    exact List.IsPrefix.trans (List.prefix_append s r) h

def texts : Nat → List (List UInt8)
  | 0 => [[]]
  | k + 1 => exts (texts k)
def lev (a b : List UInt8) (m : Nat) : List (List UInt8) := (texts m).filter fun t => stem t a b

theorem exts_filter (p q : List UInt8 → Bool) (h : ∀ s c, q (s ++ [c]) = true → p s = true) : ∀ l : List (List UInt8), (exts (l.filter p)).filter q = (exts l).filter q
  | [] => rfl
  | s :: l => by
    have e : ∀ x y, exts (x :: y) = ext x ++ exts y := fun x y => by simp [exts]
    rw [e, List.filter_append]
    cases hp : p s with
    | true => rw [List.filter_cons_of_pos hp, e, List.filter_append, exts_filter p q h l]
    | false =>
      rw [List.filter_cons_of_neg (by simp [hp]), exts_filter p q h l]
      have : (ext s).filter q = [] := by
        rw [List.filter_eq_nil_iff]
        intro t ht
        obtain ⟨c, _, rfl⟩ := List.mem_map.1 ht
        intro hq
        rw [h s c hq] at hp; cases hp
      rw [this, List.nil_append]

theorem stems_texts (a b : List UInt8) (k : Nat) : stems ((texts k).filter fun t => may t a b) a b = lev a b (k + 1) := by
  unfold stems lev
  exact exts_filter (fun t => may t a b) (fun t => stem t a b) (fun s c h => may_shorter (stem_may h)) (texts k)
theorem longer_texts (a b : List UInt8) (k : Nat) : longer ((texts k).filter fun t => may t a b) a b = (texts (k + 1)).filter fun t => may t a b := by
  unfold longer
  exact exts_filter (fun t => may t a b) (fun t => may t a b) (fun s c h => may_shorter h) (texts k)
theorem texts_start (a b : List UInt8) : [[]] = (texts 0).filter fun t => may t a b := by
  have : may [] a b = true := by simp [may]
  simp [texts, this]

/- the search is: the first length at which there are stems -/
theorem search_lev (a b : List UInt8) : ∀ (n k : Nat),
    (∃ m, k < m ∧ m ≤ k + n ∧ lev a b m ≠ [] ∧ (∀ j, k < j → j < m → lev a b j = []) ∧ search a b n ((texts k).filter fun t => may t a b) = some (lev a b m)) ∨
    ((∀ j, k < j → j ≤ k + n → lev a b j = []) ∧ search a b n ((texts k).filter fun t => may t a b) = none)
  | 0, k => Or.inr ⟨fun j h1 h2 => by omega, rfl⟩
  | n + 1, k => by
    by_cases h : lev a b (k + 1) = []
    · have hs : stems ((texts k).filter fun t => may t a b) a b = [] := by rw [stems_texts, h]
      rw [search_miss hs, longer_texts]
      rcases search_lev a b n (k + 1) with ⟨m, h1, h2, h3, h4, h5⟩ | ⟨h1, h2⟩
      · refine Or.inl ⟨m, by omega, by omega, h3, fun j j1 j2 => ?_, h5⟩
        rcases Nat.lt_or_ge (k + 1) j with hj | hj
        · exact h4 j hj j2
        · rw [show j = k + 1 from by omega]; exact h
      · refine Or.inr ⟨fun j j1 j2 => ?_, h2⟩
        rcases Nat.lt_or_ge (k + 1) j with hj | hj
        · exact h1 j hj (by omega)
        · rw [show j = k + 1 from by omega]; exact h
    · have hs : stems ((texts k).filter fun t => may t a b) a b ≠ [] := by rw [stems_texts]; exact h
      rw [search_hit hs, stems_texts]
      exact Or.inl ⟨k + 1, by omega, by omega, h, fun j j1 j2 => by omega, rfl⟩

theorem search_first (a b : List UInt8) :
    (∃ m, 0 < m ∧ m ≤ 11 ∧ lev a b m ≠ [] ∧ (∀ j, 0 < j → j < m → lev a b j = []) ∧ search a b 11 [[]] = some (lev a b m)) ∨
    ((∀ j, 0 < j → j ≤ 11 → lev a b j = []) ∧ search a b 11 [[]] = none) := by
  have h := search_lev a b 11 0
  rw [← texts_start] at h
  simpa using h

theorem letter_mem {c : UInt8} (h : isLet c = true) : c ∈ letters := by
  simp only [isLet, decide_eq_true_eq] at h
  refine List.mem_map.2 ⟨c.toNat - 97, List.mem_range.2 (by omega), ?_⟩
  rw [show 97 + (c.toNat - 97) = c.toNat from by omega]
  exact UInt8.ofNat_toNat

theorem mem_texts : ∀ (k : Nat) (t : List UInt8), t.length = k → t.all isLet = true → t ∈ texts k
  | 0, t, h, _ => by
    have : t = [] := List.eq_nil_of_length_eq_zero h
    subst this; simp [texts]
  | k + 1, t, h, hl => by
    have hne : t ≠ [] := by intro e; rw [e] at h; simp at h
    have e : t = t.dropLast ++ [t.getLast hne] := (List.dropLast_concat_getLast hne).symm
    have hd : t.dropLast.length = k := by rw [List.length_dropLast, h]; rfl
    rw [e, List.all_append] at hl
    simp only [Bool.and_eq_true, List.all_cons, List.all_nil, Bool.and_true] at hl
    rw [e]
    exact List.mem_flatMap.2 ⟨t.dropLast, mem_texts k _ hd hl.1, List.mem_map.2 ⟨_, letter_mem hl.2, rfl⟩⟩

/- a stem of so many letters: what is found is no longer -/
theorem found_short {a b t : List UInt8} (h : stem t a b = true) (hl : t.all isLet = true) (h0 : 0 < t.length) (h11 : t.length ≤ 11) :
    ∃ m, 0 < m ∧ m ≤ t.length ∧ search a b 11 [[]] = some (lev a b m) := by
  have hmem : t ∈ lev a b t.length := List.mem_filter.2 ⟨mem_texts _ t rfl hl, h⟩
  rcases search_first a b with ⟨m, h1, h2, h3, h4, h5⟩ | ⟨h1, h2⟩
  · refine ⟨m, h1, ?_, h5⟩
    rcases Nat.lt_or_ge t.length m with hlt | hge
    · rw [h4 t.length h0 hlt] at hmem; simp at hmem
    · exact hge
  · rw [h1 t.length h0 h11] at hmem; simp at hmem

end Pm
end Go.Proofs.YtekcjhembcdgfaaDoor
