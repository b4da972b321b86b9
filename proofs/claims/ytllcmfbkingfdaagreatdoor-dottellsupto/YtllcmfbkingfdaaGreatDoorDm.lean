/- The plain mathematics of dots and vectors: cutting a text at its dots and joining it again, decimal numerals. No program is named here. -/
import Derived.Lib.Split
import Derived.Lib.Join
import Derived.Lib.ItoaNum
import Derived.Lib.Atoi
namespace Go.Proofs.YtllcmfbkingfdaaGreatDoor
namespace Dm
open Go.Lib

/- a text cut at each dot -/
def cut : List UInt8 → List (List UInt8)
  | [] => [[]]
  | c :: r => if c = 46 then [] :: cut r else ((c :: (cut r).headD []) :: (cut r).tail)

theorem cut_ne : ∀ s : List UInt8, cut s ≠ []
  | [] => by simp [cut]
  | c :: r => by unfold cut; split <;> simp

theorem cut_none : ∀ x : List UInt8, (46 : UInt8) ∉ x → cut x = [x]
  | [], _ => rfl
  | c :: r, h => by
    have h1 : c ≠ 46 := fun e => h (by simp [e])
    have h2 : (46 : UInt8) ∉ r := fun e => h (by simp [e])
    unfold cut; rw [if_neg h1, cut_none r h2]; rfl

theorem cut_app : ∀ (x r : List UInt8), (46 : UInt8) ∉ x → cut (x ++ 46 :: r) = x :: cut r
  | [], r, _ => by simp [cut]
  | c :: x, r, h => by
    have h1 : c ≠ 46 := fun e => h (by simp [e])
    have h2 : (46 : UInt8) ∉ x := fun e => h (by simp [e])
    rw [List.cons_append, cut, if_neg h1, cut_app x r h2]; rfl

theorem join_cons2 (x y : List UInt8) (r : List (List UInt8)) : join (x :: y :: r) [46] = x ++ 46 :: join (y :: r) [46] := by
  rw [join_cons, join_cons]
  simp [joinTail]

theorem join_cut : ∀ s : List UInt8, join (cut s) [46] = s
  | [] => rfl
  | c :: r => by
    have ih := join_cut r
    unfold cut
    rcases hc : cut r with _ | ⟨h, t⟩
    · exact absurd hc (cut_ne r)
    · rw [hc] at ih
      split
      · next e => rw [join_cons2, ih, e]; rfl
      · show join ((c :: h) :: t) [46] = c :: r
        rw [join_cons] at ih ⊢
        rw [List.cons_append, ih]

theorem cut_join : ∀ (xs : List (List UInt8)), xs ≠ [] → (∀ x ∈ xs, (46 : UInt8) ∉ x) → cut (join xs [46]) = xs
  | [], h, _ => absurd rfl h
  | [x], _, h => by rw [join_one]; exact cut_none x (h x (by simp))
  | x :: y :: r, _, h => by
    rw [join_cons2, cut_app _ _ (h x (by simp)), cut_join (y :: r) (by simp) (fun z hz => h z (by simp [hz]))]

theorem occ_iff (s : List UInt8) (j : Nat) : occAt s [46] j = true ↔ s[j]? = some 46 := by
  unfold occAt
  rw [← List.head?_drop]
  cases h : s.drop j with
  | nil => simp [List.isPrefixOf]
  | cons a t => simp only [List.isPrefixOf, Bool.and_true, beq_iff_eq, List.head?_cons, Option.some.injEq]; exact eq_comm

theorem split_cut : ∀ (n : Nat) (s : List UInt8), s.length ≤ n → splitK [46] 0 (count s [46]) s = cut s := by
  intro n
  induction n with
  | zero =>
    intro s h
    obtain rfl : s = [] := List.eq_nil_of_length_eq_zero (by omega)
    rfl
  | succ n ih =>
    intro s h
    rcases index_spec s [46] with ⟨h1, h2⟩ | ⟨i, h1, h2, h3, h4⟩
    · rw [count_miss h1]
      have hm : (46 : UInt8) ∉ s := by
        intro hm
        obtain ⟨j, hj, e⟩ := List.getElem_of_mem hm
        have := h2 j (by omega)
        rw [(occ_iff s j).2 (by rw [List.getElem?_eq_getElem hj, e])] at this
        exact absurd this (by decide)
      rw [cut_none s hm]; rfl
    · have h5 := (occ_iff s i).1 h3
      obtain ⟨hi, e5⟩ := List.getElem?_eq_some_iff.1 h5
      have hs : s = s.take i ++ 46 :: s.drop (i + 1) := by
        rw [← e5, ← List.drop_eq_getElem_cons hi, List.take_append_drop]
      have hm : (46 : UInt8) ∉ s.take i := by
        intro hm
        obtain ⟨j, hj, e⟩ := List.getElem_of_mem hm
        have hj2 : j < i := by simp at hj; omega
        have := h4 j hj2
        rw [(occ_iff s j).2 (by rw [List.getElem?_eq_getElem (by omega)]; simp at e; rw [e])] at this
        exact absurd this (by decide)
      have hc : cut s = s.take i :: cut (s.drop (i + 1)) := by
        conv => lhs; rw [hs]
        exact cut_app _ _ hm
      rw [count_hit (by simp) h1, hc, Nat.add_comm 1, splitK, if_neg (by rw [h1]; simp), h1]
      show s.take (i + 0) :: _ = _
      rw [Nat.add_zero]
      congr 1
      exact ih _ (by simp; omega)

theorem count_cut (s : List UInt8) : count s [46] + 1 = (cut s).length := by
  suffices ∀ (n : Nat) (s : List UInt8), s.length ≤ n → count s [46] + 1 = (cut s).length from this _ s (Nat.le_refl _)
  intro n
  induction n with
  | zero =>
    intro s h
    obtain rfl : s = [] := List.eq_nil_of_length_eq_zero (by omega)
    rfl
  | succ n ih =>
    intro s h
    rcases index_spec s [46] with ⟨h1, h2⟩ | ⟨i, h1, h2, h3, h4⟩
    · have e := split_cut _ s (Nat.le_refl _)
      rw [count_miss h1] at e ⊢
      rw [← e]; rfl
    · have h5 := (occ_iff s i).1 h3
      obtain ⟨hi, e5⟩ := List.getElem?_eq_some_iff.1 h5
      have e := split_cut _ s (Nat.le_refl _)
      have e2 := ih (s.drop (i + 1)) (by simp; omega)
      have e3 := split_cut _ (s.drop (i + 1)) (Nat.le_refl _)
      rw [← e, count_hit (by simp) h1, Nat.add_comm 1 (count _ _), splitK, if_neg (by rw [h1]; simp), h1]
      show count (s.drop (i + 1)) [46] + 1 + 1 = (_ :: splitK [46] 0 (count (s.drop (i + 1)) [46]) (s.drop (i + 1))).length
      rw [e3, e2]; rfl

/-! numerals -/
theorem digitVal_ofNat {d : Nat} (h : d < 10) : digitVal (UInt8.ofNat (48 + d)) = some d := by
  have : (UInt8.ofNat (48 + d)).toNat = 48 + d := by simp [UInt8.toNat_ofNat']; omega
  unfold digitVal; rw [this, if_pos (by omega)]; congr 1; omega

theorem digitVal_some {b : UInt8} {d : Nat} (h : digitVal b = some d) : d < 10 ∧ b = UInt8.ofNat (48 + d) := by
  unfold digitVal at h
  split at h
  · next hb =>
    injection h with h
    refine ⟨by omega, ?_⟩
    apply UInt8.toNat_inj.1
    simp [UInt8.toNat_ofNat']; omega
  · cases h

theorem decFrom_append : ∀ (l : List UInt8) (acc : Nat) (c : UInt8), decFrom acc (l ++ [c]) = (decFrom acc l).bind fun u => (digitVal c).map fun d => u * 10 + d
  | [], acc, c => by
    simp only [List.nil_append, decFrom]
    cases digitVal c <;> rfl
  | b :: r, acc, c => by
    simp only [List.cons_append, decFrom]
    cases digitVal b with
    | none => rfl
    | some d => exact decFrom_append r _ c

theorem decFrom_dec (u : Nat) : decFrom 0 (decDigits u) = some u := by
  induction u using Nat.strongRecOn with
  | _ u ih =>
    by_cases h : u < 10
    · rw [decDigits, dif_pos h]
      simp only [decFrom, digitVal_ofNat h]
      simp
    · rw [decDigits, dif_neg h, decFrom_append, ih _ (by omega), digitVal_ofNat (by omega)]
      simp only [Option.bind_some, Option.map_some]
      congr 1; omega

theorem head_app {x y : List UInt8} (h : x ≠ []) : (x ++ y).head? = x.head? := by
  cases x with
  | nil => exact absurd rfl h
  | cons a t => rfl

theorem dec_ne (u : Nat) : decDigits u ≠ [] := by
  rw [decDigits]; split <;> simp

theorem dec_digit (u : Nat) : ∀ c ∈ decDigits u, ∃ d, digitVal c = some d := by
  intro c hc
  obtain ⟨k, hk, e⟩ := List.getElem_of_mem hc
  exact digit_of_decFrom _ _ _ (decFrom_dec u) k c (by rw [List.getElem?_eq_getElem hk, e])

theorem digit_no (c : UInt8) (h : ∃ d, digitVal c = some d) : c ≠ 46 ∧ c ≠ 45 ∧ c ≠ 43 := by
  obtain ⟨d, h⟩ := h
  refine ⟨?_, ?_, ?_⟩ <;> (rintro rfl; revert h; simp [digitVal])

theorem dec_dot (u : Nat) : (46 : UInt8) ∉ decDigits u := fun h => (digit_no _ (dec_digit u _ h)).1 rfl

/- no needless 0 ahead -/
theorem dec_head (u : Nat) (h : 0 < u) : (decDigits u).head? ≠ some 48 := by
  induction u using Nat.strongRecOn with
  | _ u ih =>
    by_cases h10 : u < 10
    · rw [decDigits, dif_pos h10]
      simp only [List.head?_cons, ne_eq, Option.some.injEq]
      intro e
      have := congrArg UInt8.toNat e
      simp [UInt8.toNat_ofNat'] at this; omega
    · rw [decDigits, dif_neg h10, head_app (dec_ne _)]
      exact ih _ (by omega) (by omega)

theorem atoi_digit {b : UInt8} {r : List UInt8} (h : ∃ d, digitVal b = some d) : atoi (b :: r) = (decFrom 0 (b :: r)).map fun (m : Nat) => (m : Int) := by
  have := digit_no b h
  rw [atoi, if_neg (by simp [this.2.1]), if_neg (by simp [this.2.2])]
  rfl

theorem atoi_dec (u : Nat) : atoi (decDigits u) = some (u : Int) := by
  rcases h : decDigits u with _ | ⟨b, r⟩
  · exact absurd h (dec_ne u)
  · rw [atoi_digit (dec_digit u b (by rw [h]; simp)), ← h, decFrom_dec]; rfl

theorem decFrom_pos : ∀ (l : List UInt8) (acc u : Nat), 0 < acc → decFrom acc l = some u → 0 < u
  | [], acc, u, h, e => by simp only [decFrom, Option.some.injEq] at e; omega
  | b :: r, acc, u, h, e => by
    simp only [decFrom] at e
    cases hb : digitVal b with
    | none => rw [hb] at e; cases e
    | some d => rw [hb] at e; exact decFrom_pos r _ u (by omega) e

/- a numeral without a needless 0 is the one that is written -/
theorem canon (l : List UInt8) : ∀ u, l ≠ [] → (l.head? ≠ some 48 ∨ l.length = 1) → decFrom 0 l = some u → decDigits u = l := by
  suffices ∀ (n : Nat) (l : List UInt8) (u : Nat), l.length = n → l ≠ [] → (l.head? ≠ some 48 ∨ l.length = 1) → decFrom 0 l = some u → decDigits u = l from fun u => this _ l u rfl
  intro n
  induction n with
  | zero => intro l u h h1; exact absurd (List.eq_nil_of_length_eq_zero h) h1
  | succ n ih =>
    intro l u hn h1 h2 h3
    have hl : l = l.dropLast ++ [l.getLast h1] := (List.dropLast_concat_getLast h1).symm
    rw [hl, decFrom_append] at h3
    cases h4 : decFrom 0 l.dropLast with
    | none => rw [h4] at h3; cases h3
    | some v =>
      rw [h4] at h3
      cases h5 : digitVal (l.getLast h1) with
      | none => rw [h5] at h3; cases h3
      | some d =>
        rw [h5] at h3
        simp only [Option.bind_some, Option.map_some, Option.some.injEq] at h3
        obtain ⟨hd, ed⟩ := digitVal_some h5
        by_cases h6 : l.dropLast = []
        · rw [h6] at h4
          simp only [decFrom, Option.some.injEq] at h4
          conv => rhs; rw [hl, h6, ed]
          rw [decDigits, dif_pos (by omega)]
          simp only [List.nil_append]
          congr 3; omega
        · have h7 : l.dropLast.head? ≠ some 48 := by
            have : l.head? = l.dropLast.head? := by
              conv => lhs; rw [hl]
              rw [head_app h6]
            rw [← this]
            rcases h2 with h2 | h2
            · exact h2
            · exact absurd (List.eq_nil_of_length_eq_zero (by simp; omega)) h6
          have h8 := ih l.dropLast v (by simp; omega) h6 (Or.inl h7) h4
          have hv : 0 < v := by
            rcases hx : l.dropLast with _ | ⟨b, r⟩
            · exact absurd hx h6
            · rw [hx] at h4 h7
              simp only [decFrom] at h4
              cases hb : digitVal b with
              | none => rw [hb] at h4; cases h4
              | some e =>
                rw [hb] at h4
                obtain ⟨he, eb⟩ := digitVal_some hb
                refine decFrom_pos r _ v ?_ h4
                rcases Nat.eq_zero_or_pos e with h0 | h0
                · subst h0; exact absurd (by simp [eb]) h7
                · omega
          rw [decDigits, dif_neg (by omega)]
          conv => rhs; rw [hl, ed]
          rw [show u / 10 = v by omega, h8, show u % 10 = d by omega]

/- a number as package dot reads it, and as the reference does -/
def numO (l : List UInt8) : Option Int :=
  if 9 < l.length then none else match atoi l with
    | none => none
    | some n => if n < 0 then none else if itoa n = l then some n else none
def refO (l : List UInt8) : Option Nat :=
  if l = [] ∨ 9 < l.length ∨ (l.head? = some 48 ∧ 1 < l.length) then none else decFrom 0 l

theorem itoa_nat (u : Nat) : itoa (u : Int) = decDigits u := by unfold itoa; rw [if_neg (by omega)]; simp

theorem numO_ref (l : List UInt8) : numO l = (refO l).map fun (u : Nat) => (u : Int) := by
  unfold numO refO
  by_cases h9 : 9 < l.length
  · rw [if_pos h9, if_pos (Or.inr (Or.inl h9))]; rfl
  rw [if_neg h9]
  by_cases hn : l = []
  · subst hn; rfl
  by_cases h0 : l.head? = some 48 ∧ 1 < l.length
  · rw [if_pos (Or.inr (Or.inr h0))]
    rcases l with _ | ⟨b, r⟩
    · exact absurd rfl hn
    simp only [List.head?_cons, Option.some.injEq] at h0
    obtain ⟨rfl, h1⟩ := h0
    rw [atoi_digit ⟨0, rfl⟩]
    cases hd : decFrom 0 (48 :: r) with
    | none => rfl
    | some u =>
      simp only [Option.map_some]
      rw [if_neg (by omega), itoa_nat]
      rw [if_neg]
      · rfl
      · intro e
        rcases Nat.eq_zero_or_pos u with hu | hu
        · subst hu; rw [decDigits_one (by omega)] at e
          have := congrArg List.length e
          simp only [List.length_cons, List.length_nil] at this h1; omega
        · exact dec_head u hu (by rw [e]; rfl)
  · rw [if_neg (by rintro (h | h | h); exact hn h; exact h9 h; exact h0 h)]
    cases hd : decFrom 0 l with
    | none =>
      show _ = (none : Option Int)
      cases ha : atoi l with
      | none => rfl
      | some n =>
        simp only
        by_cases hneg : n < 0
        · rw [if_pos hneg]
        · rw [if_neg hneg]
          obtain ⟨u, rfl⟩ : ∃ u : Nat, n = u := ⟨n.toNat, by omega⟩
          rw [itoa_nat, if_neg]
          intro e
          rw [← e, decFrom_dec] at hd
          cases hd
    | some u =>
      have hc := canon l u hn (by
        by_cases h1 : l.head? = some 48
        · right
          have : ¬ 1 < l.length := fun h => h0 ⟨h1, h⟩
          have : l.length ≠ 0 := fun h => hn (List.eq_nil_of_length_eq_zero h)
          omega
        · exact Or.inl h1) hd
      have ha : atoi l = some (u : Int) := by rw [← hc]; exact atoi_dec u
      rw [ha]
      simp only [Option.map_some]
      rw [if_neg (by omega), itoa_nat, if_pos hc]

theorem numO_dec {u : Nat} (h : u ≤ 9999) : numO (decDigits u) = some (u : Int) := by
  unfold numO
  have hl : (decDigits u).length ≤ 9 := by
    rw [decDigits_length]
    rcases Nat.lt_or_ge (nDigits u) 10 with h1 | h1
    · omega
    · have := nDigits_unique 3 u
      by_cases h2 : u < 1000
      · by_cases h3 : u < 100
        · by_cases h4 : u < 10
          · rw [nDigits_small h4]; omega
          · rw [nDigits_unique 1 u (by omega) (by omega)]; omega
        · rw [nDigits_unique 2 u (by omega) (by omega)]; omega
      · rw [this (by omega) (by omega)]; omega
  rw [if_neg (by omega), atoi_dec]
  simp only
  rw [if_neg (by omega), itoa_nat, if_pos rfl]

theorem numO_itoa {l : List UInt8} {n : Int} (h : numO l = some n) : itoa n = l ∧ 0 ≤ n := by
  unfold numO at h
  split at h
  · cases h
  · split at h
    · cases h
    · split at h
      · cases h
      · split at h
        · next h1 h2 => injection h with h; subst h; exact ⟨h2, by omega⟩
        · cases h

end Dm
end Go.Proofs.YtllcmfbkingfdaaGreatDoor
