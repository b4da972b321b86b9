
import Derived.Test.YtnbnniapllkjlaaGreatDoorP1
namespace Go.Proofs.YtnbnniapllkjlaaGreatDoor
namespace Pm
open Op (bytesLess)
theorem less_trans : ∀ {x y z : List UInt8}, bytesLess x y = true → bytesLess y z = true → bytesLess x z = true
  | _, [], _, h, _ => by simp [bytesLess] at h
  | _, _ :: _, [], _, h => by simp [bytesLess] at h
  | [], _ :: _, _ :: _, _, _ => rfl
  | a :: x, b :: y, c :: z, h1, h2 => by
    simp only [bytesLess, Bool.or_eq_true, decide_eq_true_eq, Bool.and_eq_true, beq_iff_eq, UInt8.lt_iff_toNat_lt] at h1 h2 ⊢
    rcases h1 with h1 | ⟨rfl, h1⟩
    · rcases h2 with h2 | ⟨rfl, h2⟩
      · left; omega
      · exact Or.inl h1
    · rcases h2 with h2 | ⟨rfl, h2⟩
      · exact Or.inl h2
      · exact Or.inr ⟨rfl, less_trans h1 h2⟩
theorem lt_le {a x y : List UInt8} (h1 : bytesLess a x = true) (h2 : bytesLess y x = false) : bytesLess a y = true := by
  by_cases e : y = x
  · rw [e]; exact h1
  · exact less_trans h1 (less_total h2 e)
theorem le_lt {x y b : List UInt8} (h1 : bytesLess y x = false) (h2 : bytesLess y b = true) : bytesLess x b = true := by
  by_cases e : y = x
  · rw [← e]; exact h2
  · exact less_trans (less_total h1 e) h2
def rep (d : Nat) (c : UInt8) : List UInt8 := List.replicate d c
theorem rep_low : ∀ (r : List UInt8), r.all isLet = true → bytesLess r (rep r.length 97) = false
  | [], _ => rfl
  | x :: r, h => by
    simp only [List.all_cons, Bool.and_eq_true] at h
    have ih := rep_low r h.2
    simp only [isLet, decide_eq_true_eq] at h
    simp only [List.length_cons, rep, List.replicate_succ, bytesLess, Bool.or_eq_false_iff, decide_eq_false_iff_not, Bool.and_eq_false_iff, UInt8.lt_iff_toNat_lt]
    refine ⟨?_, Or.inr ih⟩
    show ¬ x.toNat < 97
    omega
theorem rep_high : ∀ (r : List UInt8), r.all isLet = true → bytesLess (rep r.length 122) r = false
  | [], _ => rfl
  | x :: r, h => by
    simp only [List.all_cons, Bool.and_eq_true] at h
    have ih := rep_high r h.2
    simp only [isLet, decide_eq_true_eq] at h
    simp only [List.length_cons, rep, List.replicate_succ, bytesLess, Bool.or_eq_false_iff, decide_eq_false_iff_not, Bool.and_eq_false_iff, UInt8.lt_iff_toNat_lt]
    refine ⟨?_, Or.inr ih⟩
    show ¬ 122 < x.toNat
    omega
theorem texts_flat : ∀ k, Flat k (texts k)
  | 0 => Flat.start
  | k + 1 => (texts_flat k).exts
theorem texts_length : ∀ k, (texts k).length = 26 ^ k
  | 0 => rfl
  | k + 1 => by
    have h : ∀ l : List (List UInt8), (l.flatMap ext).length = 26 * l.length := by
      intro l
      induction l with
      | nil => rfl
      | cons x r ih => rw [List.flatMap_cons, List.length_append, ih, ext_length, List.length_cons]; omega
    show ((texts k).flatMap ext).length = _
    rw [h, texts_length k, Nat.pow_succ]; omega
theorem ext_cons (c : UInt8) (t : List UInt8) : ext (c :: t) = (ext t).map (c :: ·) := by simp [ext]
theorem exts_map_cons (c : UInt8) (l : List (List UInt8)) : exts (l.map (c :: ·)) = (exts l).map (c :: ·) := by
  unfold exts
  rw [List.flatMap_map, List.map_flatMap]
  have e : (fun t => ext (c :: t)) = fun t => (ext t).map (c :: ·) := funext (ext_cons c)
  rw [e]
theorem texts_front : ∀ d, texts (d + 1) = letters.flatMap fun c => (texts d).map (c :: ·)
  | 0 => by
    have h : ∀ l : List UInt8, l.map (fun c => [c]) = l.flatMap fun c => [[c]] := by
      intro l
      induction l with
      | nil => rfl
      | cons x r ih => rw [List.map_cons, List.flatMap_cons, ih]; rfl
    show exts [[]] = _
    have e : exts [[]] = letters.map fun c => [c] := by simp [exts, ext]
    rw [e, h]; rfl
  | d + 1 => by
    have e1 : texts (d + 2) = exts (letters.flatMap fun c => (texts d).map (c :: ·)) := by rw [← texts_front d]; rfl
    have e2 : ∀ l : List UInt8, exts (l.flatMap fun c => (texts d).map (c :: ·)) = l.flatMap fun c => (texts (d + 1)).map (c :: ·) := by
      intro l
      induction l with
      | nil => rfl
      | cons x r ih =>
        have ea : ∀ u v, exts (u ++ v) = exts u ++ exts v := fun u v => by simp [exts]
        rw [List.flatMap_cons, List.flatMap_cons, ea, ih, exts_map_cons]; rfl
    rw [e1, e2]
def run (a b s : List UInt8) (d : Nat) : List (List UInt8) := ((texts d).map (s ++ ·)).filter fun t => stem t a b
theorem run_zero (a b s : List UInt8) : run a b s 0 = if stem s a b then [s] else [] := by
  simp only [run, texts, List.map_cons, List.map_nil, List.append_nil, List.filter_cons, List.filter_nil]
theorem run_succ (a b s : List UInt8) (d : Nat) : run a b s (d + 1) = letters.flatMap fun c => run a b (s ++ [c]) d := by
  unfold run
  rw [texts_front, List.map_flatMap, List.filter_flatMap]
  congr 1
  funext c
  rw [List.map_map]
  congr 2
  funext t
  simp
theorem run_lev (a b : List UInt8) (m : Nat) : run a b [] m = lev a b m := by simp [run, lev]
theorem run_le (a b s : List UInt8) (d : Nat) : (run a b s d).length ≤ 26 ^ d := by
  unfold run
  refine Nat.le_trans (List.length_filter_le _ _) ?_
  rw [List.length_map, texts_length]; exact Nat.le_refl _
def mayN (a b s : List UInt8) (d : Nat) : Bool :=
  (!(bytesLess (s ++ rep d 122) a || (s ++ rep d 122) == a)) && (b.isEmpty || bytesLess (s ++ rep d 97) b)
theorem run_none {a b s : List UInt8} {d : Nat} (h : mayN a b s d = false) : run a b s d = [] := by
  unfold run
  rw [List.filter_eq_nil_iff]
  intro t ht hst
  obtain ⟨r, hr, rfl⟩ := List.mem_map.1 ht
  obtain ⟨hl, hal⟩ := texts_flat d r hr
  simp only [stem, inside, Bool.and_eq_true, Bool.not_eq_true', Bool.or_eq_false_iff, beq_eq_false_iff_ne] at hst
  obtain ⟨⟨⟨⟨h1, h2⟩, h3⟩, _⟩, _⟩ := hst
  have hat := less_total h1 h2
  have hlow : bytesLess (s ++ r) (s ++ rep d 97) = false := by rw [less_same, ← hl]; exact rep_low r hal
  have hhigh : bytesLess (s ++ rep d 122) (s ++ r) = false := by rw [less_same, ← hl]; exact rep_high r hal
  simp only [mayN, Bool.and_eq_false_iff, Bool.not_eq_false', Bool.or_eq_true, beq_iff_eq, Bool.or_eq_false_iff] at h
  rcases h with h | ⟨h4, h5⟩
  · have hlt := lt_le hat hhigh
    rcases h with h | h
    · rw [less_asymm h] at hlt; cases hlt
    · rw [h, less_irrefl] at hlt; cases hlt
  · rw [h4] at h3
    have h6 : bytesLess (s ++ r) b = true := by simpa using h3
    have := le_lt hlow h6
    rw [this] at h5; cases h5
def allN (a b s : List UInt8) (d : Nat) : Bool :=
  (!(bytesLess (s ++ rep d 97) a || (s ++ rep d 97) == a)) && (b.isEmpty || (bytesLess (s ++ rep d 122) b && !(s.isPrefixOf b)))
theorem last_count (d : Nat) : ((texts (d + 1)).filter fun r => r.getLast? != some 97).length = 25 * 26 ^ d := by
  have hx : ∀ s : List UInt8, ((ext s).filter fun r => r.getLast? != some 97).length = 25 := by
    intro s
    unfold ext
    rw [List.filter_map, List.length_map]
    have e : (fun r : List UInt8 => r.getLast? != some 97) ∘ (fun c => s ++ [c]) = fun c : UInt8 => c != 97 := by
      funext c
      rw [Bool.eq_iff_iff]
      simp [Function.comp, bne_iff_ne]
    rw [e]
    decide +kernel
  have h : ∀ l : List (List UInt8), ((exts l).filter fun r => r.getLast? != some 97).length = 25 * l.length := by
    intro l
    induction l with
    | nil => rfl
    | cons s l ih =>
      have e : exts (s :: l) = ext s ++ exts l := by simp [exts]
      rw [e, List.filter_append, List.length_append, hx, ih, List.length_cons]; omega
  show ((exts (texts d)).filter fun r => r.getLast? != some 97).length = _
  rw [h, texts_length]
theorem run_full {a b s : List UInt8} {d : Nat} (h : allN a b s (d + 1) = true) : (run a b s (d + 1)).length = 25 * 26 ^ d := by
  rw [← last_count d]
  unfold run
  rw [List.filter_map, List.length_map]
  congr 1
  refine List.filter_congr ?_
  intro r hr
  obtain ⟨hl, hal⟩ := texts_flat (d + 1) r hr
  have hne : r ≠ [] := by intro e; rw [e] at hl; simp at hl
  have hlow : bytesLess (s ++ r) (s ++ rep (d + 1) 97) = false := by rw [less_same, ← hl]; exact rep_low r hal
  have hhigh : bytesLess (s ++ rep (d + 1) 122) (s ++ r) = false := by rw [less_same, ← hl]; exact rep_high r hal
  simp only [allN, Bool.and_eq_true, Bool.not_eq_true', Bool.or_eq_false_iff, beq_eq_false_iff_ne, Bool.or_eq_true] at h
  obtain ⟨⟨h1, h2⟩, h3⟩ := h
  have hat := lt_le (less_total h1 h2) hlow
  have e1 : inside (s ++ r) a b = true := by
    simp only [inside, Bool.and_eq_true, Bool.not_eq_true', Bool.or_eq_false_iff, beq_eq_false_iff_ne, Bool.or_eq_true]
    refine ⟨⟨less_asymm hat, ?_⟩, ?_⟩
    · intro e; rw [e, less_irrefl] at hat; cases hat
    · rcases h3 with h3 | h3
      · exact Or.inl h3
      · exact Or.inr (le_lt hhigh h3.1)
  have e2 : (s ++ r).isPrefixOf b = false := by
    rw [Bool.eq_false_iff]
    intro hp
    rw [List.isPrefixOf_iff_prefix] at hp
    rcases h3 with h3 | h3
    · have hb : b = [] := by simpa using h3
      rw [hb] at hp
      have := List.prefix_nil.1 hp
      simp at this; exact hne this.2
    · have hsb : s.isPrefixOf b = true := List.isPrefixOf_iff_prefix.2 (List.IsPrefix.trans (List.prefix_append s r) hp)
      rw [hsb] at h3; simp at h3
  have e3 : (s ++ r).getLast? = r.getLast? := by
    cases r with
    | nil => exact absurd rfl hne
    | cons x q =>
      rw [List.getLast?_append]
      cases h : (x :: q).getLast? with
      | none => simp at h
      | some y => rfl
  show stem (s ++ r) a b = _
  simp only [stem, e1, e2, e3]
  simp
def upto (a b s : List UInt8) (d j : Nat) : Nat := ((letters.take j).flatMap fun c => run a b (s ++ [c]) d).length
theorem upto_zero (a b s : List UInt8) (d : Nat) : upto a b s d 0 = 0 := by simp [upto]
theorem upto_all (a b s : List UInt8) (d : Nat) : upto a b s d 26 = (run a b s (d + 1)).length := by
  unfold upto
  rw [run_succ, List.take_of_length_le (by rw [letters_length]; exact Nat.le_refl _)]
theorem letters_get (j : Nat) (hj : j < 26) : letters[j]? = some (UInt8.ofNat (97 + j)) := by simp [letters, hj]
theorem upto_succ (a b s : List UInt8) (d j : Nat) (hj : j < 26) : upto a b s d (j + 1) = upto a b s d j + (run a b (s ++ [UInt8.ofNat (97 + j)]) d).length := by
  unfold upto
  rw [List.take_add_one, letters_get j hj, List.flatMap_append, List.length_append]
  simp
theorem upto_mono (a b s : List UInt8) (d j : Nat) (hj : j ≤ 26) : upto a b s d j ≤ (run a b s (d + 1)).length := by
  rw [← upto_all]
  unfold upto
  have e : letters.take 26 = letters.take j ++ (letters.take 26).drop j := by
    have := (List.take_append_drop j (letters.take 26)).symm
    rwa [List.take_take, Nat.min_eq_left hj] at this
  rw [e, List.flatMap_append, List.length_append]
  omega
theorem run_at (a b s : List UInt8) (d j k : Nat) (hj : j < 26) (h1 : upto a b s d j ≤ k) (h2 : k < upto a b s d (j + 1)) :
    (run a b s (d + 1))[k]? = (run a b (s ++ [UInt8.ofNat (97 + j)]) d)[k - upto a b s d j]? := by
  have e : letters = letters.take j ++ (UInt8.ofNat (97 + j) :: letters.drop (j + 1)) := by
    have h3 : j < letters.length := by rw [letters_length]; exact hj
    have h4 : letters[j] = UInt8.ofNat (97 + j) := by
      have := letters_get j hj
      rw [List.getElem?_eq_getElem h3] at this
      exact Option.some.inj this
    rw [← h4, ← List.drop_eq_getElem_cons h3, List.take_append_drop]
  rw [upto_succ _ _ _ _ _ hj] at h2
  rw [run_succ]
  conv => lhs; rw [e]
  rw [List.flatMap_append, List.flatMap_cons]
  rw [List.getElem?_append_right h1, List.getElem?_append_left]
  · rfl
  · show k - upto a b s d j < _
    omega
end Pm
end Go.Proofs.YtnbnniapllkjlaaGreatDoor
