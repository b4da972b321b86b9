/- The search for the shortest stems, by lists. No program is named here. -/
import Derived.Test.YtekcjhembcdgfaaPn
namespace Go.Proofs.Ytekcjhembcdgfaa
namespace Pm

/- round by round, at most n of them: the first stems -/
def search (a b : List UInt8) : Nat → List (List UInt8) → Option (List (List UInt8))
  | 0, _ => none
  | n + 1, o => if (stems o a b).isEmpty then search a b n (longer o a b) else some (stems o a b)

theorem search_hit {a b : List UInt8} {n : Nat} {o : List (List UInt8)} (h : stems o a b ≠ []) : search a b (n + 1) o = some (stems o a b) := by
  rw [search]; simp [h]
theorem search_miss {a b : List UInt8} {n : Nat} {o : List (List UInt8)} (h : stems o a b = []) : search a b (n + 1) o = search a b n (longer o a b) := by
  rw [search]; simp [h]

theorem letters_one (x : UInt8) : (letters.filter (· == x)).length ≤ 1 := by
  have : ∀ n : Fin 256, (letters.filter (· == UInt8.ofNat n)).length ≤ 1 := by decide +kernel
  have h2 := this ⟨x.toNat, UInt8.toNat_lt x⟩
  simpa using h2

theorem mem_letters {c : UInt8} (h : c ∈ letters) : isLet c = true := by
  simp only [letters, List.mem_map, List.mem_range] at h
  obtain ⟨i, hi, rfl⟩ := h
  simp [isLet]; omega

theorem prefix_next {h a : List UInt8} {c : UInt8} (hp : (h ++ [c]).isPrefixOf a = true) : a[h.length]? = some c := by
  obtain ⟨r, hr⟩ := List.isPrefixOf_iff_prefix.1 hp
  rw [← hr]; simp

theorem filter3 (l : List UInt8) (p : UInt8 → Bool) (x y z : UInt8) (h : ∀ c ∈ l, p c = true → c = x ∨ c = y ∨ c = z)
    (h1 : ∀ u, (l.filter (· == u)).length ≤ 1) : (l.filter p).length ≤ 3 := by
  have key : ∀ l : List UInt8, (∀ c ∈ l, p c = true → c = x ∨ c = y ∨ c = z) → (l.filter p).length ≤ (l.filter (· == x)).length + (l.filter (· == y)).length + (l.filter (· == z)).length := by
    intro l
    induction l with
    | nil => intro _; simp
    | cons c r ih =>
      intro hc
      have hr := ih (fun d hd => hc d (List.mem_cons_of_mem _ hd))
      cases hp : p c with
      | false =>
        rw [List.filter_cons_of_neg (by simp [hp])]
        have e1 : (r.filter (· == x)).length ≤ ((c :: r).filter (· == x)).length := by simp only [List.filter_cons]; split <;> simp
        have e2 : (r.filter (· == y)).length ≤ ((c :: r).filter (· == y)).length := by simp only [List.filter_cons]; split <;> simp
        have e3 : (r.filter (· == z)).length ≤ ((c :: r).filter (· == z)).length := by simp only [List.filter_cons]; split <;> simp
        omega
      | true =>
        rw [List.filter_cons_of_pos (by simp [hp]), List.length_cons]
        have e1 : (r.filter (· == x)).length ≤ ((c :: r).filter (· == x)).length := by simp only [List.filter_cons]; split <;> simp
        have e2 : (r.filter (· == y)).length ≤ ((c :: r).filter (· == y)).length := by simp only [List.filter_cons]; split <;> simp
        have e3 : (r.filter (· == z)).length ≤ ((c :: r).filter (· == z)).length := by simp only [List.filter_cons]; split <;> simp
        rcases hc c List.mem_cons_self hp with rfl | rfl | rfl
        · have : ((c :: r).filter (· == c)).length = (r.filter (· == c)).length + 1 := by simp
          omega
        · have : ((c :: r).filter (· == c)).length = (r.filter (· == c)).length + 1 := by simp
          omega
        · have : ((c :: r).filter (· == c)).length = (r.filter (· == c)).length + 1 := by simp
          omega
  have := key l h
  have a1 := h1 x
  have a2 := h1 y
  have a3 := h1 z
  omega

/- where no text with one letter more is a stem, at most three of them may grow -/
theorem may_three (h a b : List UInt8) (hno : ∀ t ∈ ext h, stem t a b = false) : ((ext h).filter fun t => may t a b).length ≤ 3 := by
  unfold ext at hno ⊢
  rw [List.filter_map, List.length_map]
  refine filter3 _ _ 97 (a[h.length]?.getD 0) (b[h.length]?.getD 0) ?_ letters_one
  intro c hc hp
  have hs := hno (h ++ [c]) (List.mem_map.2 ⟨c, hc, rfl⟩)
  simp only [Function.comp, may, Bool.or_eq_true] at hp
  rcases hp with hp | hp
  · simp only [stem, hp, Bool.true_and, Bool.and_eq_false_iff] at hs
    rcases hs with hs | hs
    · left
      simpa using hs
    · right; right
      have : (h ++ [c]).isPrefixOf b = true := by simpa using hs
      rw [prefix_next this]; rfl
  · right; left
    rw [prefix_next hp]; rfl

theorem longer_le (o : List (List UInt8)) (a b : List UInt8) (hno : stems o a b = []) : (longer o a b).length ≤ 3 * o.length := by
  have hall : ∀ t ∈ exts o, stem t a b = false := by
    intro t ht
    have h1 := List.filter_eq_nil_iff.1 hno t ht
    simpa using h1
  unfold longer
  clear hno
  induction o with
  | nil => simp [exts]
  | cons h r ih =>
    have e : exts (h :: r) = ext h ++ exts r := by simp [exts]
    rw [e] at hall ⊢
    rw [List.filter_append, List.length_append, List.length_cons]
    have h1 := may_three h a b (fun t ht => hall t (List.mem_append_left _ ht))
    have h2 := ih (fun t ht => hall t (List.mem_append_right _ ht))
    omega

theorem mem_exts {o : List (List UInt8)} {t : List UInt8} (h : t ∈ exts o) : ∃ s ∈ o, ∃ c ∈ letters, t = s ++ [c] := by
  obtain ⟨s, hs, ht⟩ := List.mem_flatMap.1 h
  obtain ⟨c, hc, rfl⟩ := List.mem_map.1 ht
  exact ⟨s, hs, c, hc, rfl⟩

/- all texts of one length, of letters -/
def Flat (k : Nat) (o : List (List UInt8)) : Prop := ∀ t ∈ o, t.length = k ∧ t.all isLet = true
theorem Flat.exts {k : Nat} {o : List (List UInt8)} (h : Flat k o) : Flat (k + 1) (exts o) := by
  intro t ht
  obtain ⟨s, hs, c, hc, rfl⟩ := mem_exts ht
  obtain ⟨h1, h2⟩ := h s hs
  exact ⟨by simp [h1], by rw [List.all_append, h2]; simp [mem_letters hc]⟩
theorem Flat.longer {k : Nat} {o : List (List UInt8)} {a b : List UInt8} (h : Flat k o) : Flat (k + 1) (longer o a b) :=
  fun t ht => h.exts t (List.mem_filter.1 ht).1
theorem Flat.stems {k : Nat} {o : List (List UInt8)} {a b : List UInt8} (h : Flat k o) : Flat (k + 1) (stems o a b) :=
  fun t ht => h.exts t (List.mem_filter.1 ht).1
theorem Flat.start : Flat 0 [[]] := by intro t ht; simp at ht; subst ht; simp

/- what is found: stems, all of one length from 1 on, of letters -/
theorem search_found {a b : List UInt8} : ∀ (n k : Nat) (o st : List (List UInt8)), Flat k o → search a b n o = some st →
    st ≠ [] ∧ ∃ m, k < m ∧ m ≤ k + n ∧ Flat m st ∧ ∀ t ∈ st, stem t a b = true
  | 0, _, _, _, _, h => by simp [search] at h
  | n + 1, k, o, st, hf, h => by
    by_cases hs : Pm.stems o a b = []
    · rw [search_miss hs] at h
      obtain ⟨h1, m, h2, h3, h4⟩ := search_found n (k + 1) _ st hf.longer h
      exact ⟨h1, m, by omega, by omega, h4⟩
    · rw [search_hit hs] at h
      simp only [Option.some.injEq] at h
      subst h
      exact ⟨hs, k + 1, by omega, by omega, hf.stems, fun t ht => (List.mem_filter.1 ht).2⟩

end Pm
end Go.Proofs.Ytekcjhembcdgfaa
