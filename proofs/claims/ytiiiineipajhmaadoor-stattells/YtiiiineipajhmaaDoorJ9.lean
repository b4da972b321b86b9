import Derived.Lib.Split
import Derived.Lib.Join
import Derived.Lib.ItoaNum
import Derived.Lib.Atoi
import Derived.Test.YtiiiineipajhmaaDoorRows
import Derived.WalkKit
import Derived.WalkLawsBesides
import Derived.WalkSpells
import Derived.ProofKit
import Derived.OpenShut
import Derived.OwnWalk
import Derived.Laws.OwnMore
import Derived.RegionTactic
import Derived.BigRegion
import Derived.Deep.QuietTactic
import Derived.BigQuiet
/- The plain mathematics of dots and vectors: cutting a text at its dots and joining it again, decimal numerals. No program is named here. -/
namespace Go.Proofs.YtiiiineipajhmaaDoor
namespace Dm
open Go.Lib

/- a text cut at each dot -/
def cut : List UInt8 → List (List UInt8)
  | [] => [[]]
  | c :: r => if c = 46 then [] :: cut r else ((c :: (cut r).headD []) :: (cut r).tail)

theorem cut_ne : ∀ s : List UInt8, cut s ≠ []
  | [] => by simp [cut]
  | c :: r => by unfold cut; split <;> simp

theorem cut_none : ∀ x : List UInt8, (46 : UInt8) ∉ x → cut x = [x]
  | [], _ => rfl
  | c :: r, h => by
    have h1 : c ≠ 46 := fun e => h (by simp [e])
    have h2 : (46 : UInt8) ∉ r := fun e => h (by simp [e])
    unfold cut; rw [if_neg h1, cut_none r h2]; rfl

theorem cut_app : ∀ (x r : List UInt8), (46 : UInt8) ∉ x → cut (x ++ 46 :: r) = x :: cut r
  | [], r, _ => by simp [cut]
  | c :: x, r, h => by
    have h1 : c ≠ 46 := fun e => h (by simp [e])
    have h2 : (46 : UInt8) ∉ x := fun e => h (by simp [e])
    rw [List.cons_append, cut, if_neg h1, cut_app x r h2]; rfl

theorem join_cons2 (x y : List UInt8) (r : List (List UInt8)) : join (x :: y :: r) [46] = x ++ 46 :: join (y :: r) [46] := by
  rw [join_cons, join_cons]
  simp [joinTail]

theorem join_cut : ∀ s : List UInt8, join (cut s) [46] = s
  | [] => rfl
  | c :: r => by
    have ih := join_cut r
    unfold cut
    rcases hc : cut r with _ | ⟨h, t⟩
    · exact absurd hc (cut_ne r)
    · rw [hc] at ih
      split
      · next e => rw [join_cons2, ih, e]; rfl
      · show join ((c :: h) :: t) [46] = c :: r
        rw [join_cons] at ih ⊢
        rw [List.cons_append, ih]

theorem cut_join : ∀ (xs : List (List UInt8)), xs ≠ [] → (∀ x ∈ xs, (46 : UInt8) ∉ x) → cut (join xs [46]) = xs
  | [], h, _ => absurd rfl h
  | [x], _, h => by rw [join_one]; exact cut_none x (h x (by simp))
  | x :: y :: r, _, h => by
    rw [join_cons2, cut_app _ _ (h x (by simp)), cut_join (y :: r) (by simp) (fun z hz => h z (by simp [hz]))]

theorem occ_iff (s : List UInt8) (j : Nat) : occAt s [46] j = true ↔ s[j]? = some 46 := by
  unfold occAt
  rw [← List.head?_drop]
  cases h : s.drop j with
  | nil => simp [List.isPrefixOf]
  | cons a t => simp only [List.isPrefixOf, Bool.and_true, beq_iff_eq, List.head?_cons, Option.some.injEq]; exact eq_comm

theorem split_cut : ∀ (n : Nat) (s : List UInt8), s.length ≤ n → splitK [46] 0 (count s [46]) s = cut s := by
  intro n
  induction n with
  | zero =>
    intro s h
    obtain rfl : s = [] := List.eq_nil_of_length_eq_zero (by omega)
    rfl
  | succ n ih =>
    intro s h
    rcases index_spec s [46] with ⟨h1, h2⟩ | ⟨i, h1, h2, h3, h4⟩
    · rw [count_miss h1]
      have hm : (46 : UInt8) ∉ s := by
        intro hm
        obtain ⟨j, hj, e⟩ := List.getElem_of_mem hm
        have := h2 j (by omega)
        rw [(occ_iff s j).2 (by rw [List.getElem?_eq_getElem hj, e])] at this
        exact absurd this (by decide)
      rw [cut_none s hm]; rfl
    · have h5 := (occ_iff s i).1 h3
      obtain ⟨hi, e5⟩ := List.getElem?_eq_some_iff.1 h5
      have hs : s = s.take i ++ 46 :: s.drop (i + 1) := by
        rw [← e5, ← List.drop_eq_getElem_cons hi, List.take_append_drop]
      have hm : (46 : UInt8) ∉ s.take i := by
        intro hm
        obtain ⟨j, hj, e⟩ := List.getElem_of_mem hm
        have hj2 : j < i := by simp at hj; omega
        have := h4 j hj2
        rw [(occ_iff s j).2 (by rw [List.getElem?_eq_getElem (by omega)]; simp at e; rw [e])] at this
        exact absurd this (by decide)
      have hc : cut s = s.take i :: cut (s.drop (i + 1)) := by
        conv => lhs; rw [hs]
        exact cut_app _ _ hm
      rw [count_hit (by simp) h1, hc, Nat.add_comm 1, splitK, if_neg (by rw [h1]; simp), h1]
      show s.take (i + 0) :: _ = _
      rw [Nat.add_zero]
      congr 1
      exact ih _ (by simp; omega)

theorem count_cut (s : List UInt8) : count s [46] + 1 = (cut s).length := by
  suffices ∀ (n : Nat) (s : List UInt8), s.length ≤ n → count s [46] + 1 = (cut s).length from this _ s (Nat.le_refl _)
  intro n
  induction n with
  | zero =>
    intro s h
    obtain rfl : s = [] := List.eq_nil_of_length_eq_zero (by omega)
    rfl
  | succ n ih =>
    intro s h
    rcases index_spec s [46] with ⟨h1, h2⟩ | ⟨i, h1, h2, h3, h4⟩
    · have e := split_cut _ s (Nat.le_refl _)
      rw [count_miss h1] at e ⊢
      rw [← e]; rfl
    · have h5 := (occ_iff s i).1 h3
      obtain ⟨hi, e5⟩ := List.getElem?_eq_some_iff.1 h5
      have e := split_cut _ s (Nat.le_refl _)
      have e2 := ih (s.drop (i + 1)) (by simp; omega)
      have e3 := split_cut _ (s.drop (i + 1)) (Nat.le_refl _)
      rw [← e, count_hit (by simp) h1, Nat.add_comm 1 (count _ _), splitK, if_neg (by rw [h1]; simp), h1]
      show count (s.drop (i + 1)) [46] + 1 + 1 = (_ :: splitK [46] 0 (count (s.drop (i + 1)) [46]) (s.drop (i + 1))).length
      rw [e3, e2]; rfl

/-! numerals -/
theorem digitVal_ofNat {d : Nat} (h : d < 10) : digitVal (UInt8.ofNat (48 + d)) = some d := by
  have : (UInt8.ofNat (48 + d)).toNat = 48 + d := by simp [UInt8.toNat_ofNat']; omega
  unfold digitVal; rw [this, if_pos (by omega)]; congr 1; omega

theorem digitVal_some {b : UInt8} {d : Nat} (h : digitVal b = some d) : d < 10 ∧ b = UInt8.ofNat (48 + d) := by
  unfold digitVal at h
  split at h
  · next hb =>
    injection h with h
    refine ⟨by omega, ?_⟩
    apply UInt8.toNat_inj.1
    simp [UInt8.toNat_ofNat']; omega
  · cases h

theorem decFrom_append : ∀ (l : List UInt8) (acc : Nat) (c : UInt8), decFrom acc (l ++ [c]) = (decFrom acc l).bind fun u => (digitVal c).map fun d => u * 10 + d
  | [], acc, c => by
    simp only [List.nil_append, decFrom]
    cases digitVal c <;> rfl
  | b :: r, acc, c => by
    simp only [List.cons_append, decFrom]
    cases digitVal b with
    | none => rfl
    | some d => exact decFrom_append r _ c

theorem decFrom_dec (u : Nat) : decFrom 0 (decDigits u) = some u := by
  induction u using Nat.strongRecOn with
  | _ u ih =>
    by_cases h : u < 10
    · rw [decDigits, dif_pos h]
      simp only [decFrom, digitVal_ofNat h]
      simp
    · rw [decDigits, dif_neg h, decFrom_append, ih _ (by omega), digitVal_ofNat (by omega)]
      simp only [Option.bind_some, Option.map_some]
      congr 1; omega

theorem head_app {x y : List UInt8} (h : x ≠ []) : (x ++ y).head? = x.head? := by
  cases x with
  | nil => exact absurd rfl h
  | cons a t => rfl

theorem dec_ne (u : Nat) : decDigits u ≠ [] := by
  rw [decDigits]; split <;> simp

theorem dec_digit (u : Nat) : ∀ c ∈ decDigits u, ∃ d, digitVal c = some d := by
  intro c hc
  obtain ⟨k, hk, e⟩ := List.getElem_of_mem hc
  exact digit_of_decFrom _ _ _ (decFrom_dec u) k c (by rw [List.getElem?_eq_getElem hk, e])

theorem digit_no (c : UInt8) (h : ∃ d, digitVal c = some d) : c ≠ 46 ∧ c ≠ 45 ∧ c ≠ 43 := by
  obtain ⟨d, h⟩ := h
  refine ⟨?_, ?_, ?_⟩ <;> (rintro rfl; revert h; simp [digitVal])

theorem dec_dot (u : Nat) : (46 : UInt8) ∉ decDigits u := fun h => (digit_no _ (dec_digit u _ h)).1 rfl

/- no needless 0 ahead -/
theorem dec_head (u : Nat) (h : 0 < u) : (decDigits u).head? ≠ some 48 := by
  induction u using Nat.strongRecOn with
  | _ u ih =>
    by_cases h10 : u < 10
    · rw [decDigits, dif_pos h10]
      simp only [List.head?_cons, ne_eq, Option.some.injEq]
      intro e
      have := congrArg UInt8.toNat e
      simp [UInt8.toNat_ofNat'] at this; omega
    · rw [decDigits, dif_neg h10, head_app (dec_ne _)]
      exact ih _ (by omega) (by omega)

theorem atoi_digit {b : UInt8} {r : List UInt8} (h : ∃ d, digitVal b = some d) : atoi (b :: r) = (decFrom 0 (b :: r)).map fun (m : Nat) => (m : Int) := by
  have := digit_no b h
  rw [atoi, if_neg (by simp [this.2.1]), if_neg (by simp [this.2.2])]
  rfl

theorem atoi_dec (u : Nat) : atoi (decDigits u) = some (u : Int) := by
  rcases h : decDigits u with _ | ⟨b, r⟩
  · exact absurd h (dec_ne u)
  · rw [atoi_digit (dec_digit u b (by rw [h]; simp)), ← h, decFrom_dec]; rfl

theorem decFrom_pos : ∀ (l : List UInt8) (acc u : Nat), 0 < acc → decFrom acc l = some u → 0 < u
  | [], acc, u, h, e => by simp only [decFrom, Option.some.injEq] at e; omega
  | b :: r, acc, u, h, e => by
    simp only [decFrom] at e
    cases hb : digitVal b with
    | none => rw [hb] at e; cases e
    | some d => rw [hb] at e; exact decFrom_pos r _ u (by omega) e

/- a numeral without a needless 0 is the one that is written -/
theorem canon (l : List UInt8) : ∀ u, l ≠ [] → (l.head? ≠ some 48 ∨ l.length = 1) → decFrom 0 l = some u → decDigits u = l := by
  suffices ∀ (n : Nat) (l : List UInt8) (u : Nat), l.length = n → l ≠ [] → (l.head? ≠ some 48 ∨ l.length = 1) → decFrom 0 l = some u → decDigits u = l from fun u => this _ l u rfl
  intro n
  induction n with
  | zero => intro l u h h1; exact absurd (List.eq_nil_of_length_eq_zero h) h1
  | succ n ih =>
    intro l u hn h1 h2 h3
    have hl : l = l.dropLast ++ [l.getLast h1] := (List.dropLast_concat_getLast h1).symm
    rw [hl, decFrom_append] at h3
    cases h4 : decFrom 0 l.dropLast with
    | none => rw [h4] at h3; cases h3
    | some v =>
      rw [h4] at h3
      cases h5 : digitVal (l.getLast h1) with
      | none => rw [h5] at h3; cases h3
      | some d =>
        rw [h5] at h3
        simp only [Option.bind_some, Option.map_some, Option.some.injEq] at h3
        obtain ⟨hd, ed⟩ := digitVal_some h5
        by_cases h6 : l.dropLast = []
        · rw [h6] at h4
          simp only [decFrom, Option.some.injEq] at h4
          conv => rhs; rw [hl, h6, ed]
          rw [decDigits, dif_pos (by omega)]
          simp only [List.nil_append]
          congr 3; omega
        · have h7 : l.dropLast.head? ≠ some 48 := by
            have : l.head? = l.dropLast.head? := by
              conv => lhs; rw [hl]
              rw [head_app h6]
            rw [← this]
            rcases h2 with h2 | h2
            · exact h2
            · exact absurd (List.eq_nil_of_length_eq_zero (by simp; omega)) h6
          have h8 := ih l.dropLast v (by simp; omega) h6 (Or.inl h7) h4
          have hv : 0 < v := by
            rcases hx : l.dropLast with _ | ⟨b, r⟩
            · exact absurd hx h6
            · rw [hx] at h4 h7
              simp only [decFrom] at h4
              cases hb : digitVal b with
              | none => rw [hb] at h4; cases h4
              | some e =>
                rw [hb] at h4
                obtain ⟨he, eb⟩ := digitVal_some hb
                refine decFrom_pos r _ v ?_ h4
                rcases Nat.eq_zero_or_pos e with h0 | h0
                · subst h0; exact absurd (by simp [eb]) h7
                · omega
          rw [decDigits, dif_neg (by omega)]
          conv => rhs; rw [hl, ed]
          rw [show u / 10 = v by omega, h8, show u % 10 = d by omega]

/- a number as package dot reads it, and as the reference does -/
def numO (l : List UInt8) : Option Int :=
  if 9 < l.length then none else match atoi l with
    | none => none
    | some n => if n < 0 then none else if itoa n = l then some n else none
def refO (l : List UInt8) : Option Nat :=
  if l = [] ∨ 9 < l.length ∨ (l.head? = some 48 ∧ 1 < l.length) then none else decFrom 0 l

theorem itoa_nat (u : Nat) : itoa (u : Int) = decDigits u := by unfold itoa; rw [if_neg (by omega)]; simp

theorem numO_ref (l : List UInt8) : numO l = (refO l).map fun (u : Nat) => (u : Int) := by
  unfold numO refO
  by_cases h9 : 9 < l.length
  · rw [if_pos h9, if_pos (Or.inr (Or.inl h9))]; rfl
  rw [if_neg h9]
  by_cases hn : l = []
  · subst hn; rfl
  by_cases h0 : l.head? = some 48 ∧ 1 < l.length
  · rw [if_pos (Or.inr (Or.inr h0))]
    rcases l with _ | ⟨b, r⟩
    · exact absurd rfl hn
    simp only [List.head?_cons, Option.some.injEq] at h0
    obtain ⟨rfl, h1⟩ := h0
    rw [atoi_digit ⟨0, rfl⟩]
    cases hd : decFrom 0 (48 :: r) with
    | none => rfl
    | some u =>
      simp only [Option.map_some]
      rw [if_neg (by omega), itoa_nat]
      rw [if_neg]
      · rfl
      · intro e
        rcases Nat.eq_zero_or_pos u with hu | hu
        · subst hu; rw [decDigits_one (by omega)] at e
          have := congrArg List.length e
          simp only [List.length_cons, List.length_nil] at this h1; omega
        · exact dec_head u hu (by rw [e]; rfl)
  · rw [if_neg (by rintro (h | h | h); exact hn h; exact h9 h; exact h0 h)]
    cases hd : decFrom 0 l with
    | none =>
      show _ = (none : Option Int)
      cases ha : atoi l with
      | none => rfl
      | some n =>
        simp only
        by_cases hneg : n < 0
        · rw [if_pos hneg]
        · rw [if_neg hneg]
          obtain ⟨u, rfl⟩ : ∃ u : Nat, n = u := ⟨n.toNat, by omega⟩
          rw [itoa_nat, if_neg]
          intro e
          rw [← e, decFrom_dec] at hd
          cases hd
    | some u =>
      have hc := canon l u hn (by
        by_cases h1 : l.head? = some 48
        · right
          have : ¬ 1 < l.length := fun h => h0 ⟨h1, h⟩
          have : l.length ≠ 0 := fun h => hn (List.eq_nil_of_length_eq_zero h)
          omega
        · exact Or.inl h1) hd
      have ha : atoi l = some (u : Int) := by rw [← hc]; exact atoi_dec u
      rw [ha]
      simp only [Option.map_some]
      rw [if_neg (by omega), itoa_nat, if_pos hc]

theorem numO_dec {u : Nat} (h : u ≤ 9999) : numO (decDigits u) = some (u : Int) := by
  unfold numO
  have hl : (decDigits u).length ≤ 9 := by
    rw [decDigits_length]
    rcases Nat.lt_or_ge (nDigits u) 10 with h1 | h1
    · omega
    · have := nDigits_unique 3 u
      by_cases h2 : u < 1000
      · by_cases h3 : u < 100
        · by_cases h4 : u < 10
          · rw [nDigits_small h4]; omega
          · rw [nDigits_unique 1 u (by omega) (by omega)]; omega
        · rw [nDigits_unique 2 u (by omega) (by omega)]; omega
      · rw [this (by omega) (by omega)]; omega
  rw [if_neg (by omega), atoi_dec]
  simp only
  rw [if_neg (by omega), itoa_nat, if_pos rfl]

theorem numO_itoa {l : List UInt8} {n : Int} (h : numO l = some n) : itoa n = l ∧ 0 ≤ n := by
  unfold numO at h
  split at h
  · cases h
  · split at h
    · cases h
    · split at h
      · cases h
      · split at h
        · next h1 h2 => injection h with h; subst h; exact ⟨h2, by omega⟩
        · cases h

end Dm
end Go.Proofs.YtiiiineipajhmaaDoor
/- The plain mathematics of vectors: what is wrong with one, what it has, adding, merging, comparing, writing and reading. No program is named here. -/
namespace Go.Proofs.YtiiiineipajhmaaDoor
namespace Dm
set_option linter.unusedVariables false
open Go.Lib

def bad (n : Int) : Bool := decide (n < 0) || decide (9999 < n)
def vecE (v : List Int) : Int := if v.length = 8 then (if v.any bad then 1 else 0) else 3
def dotE (who n : Int) : Int := if who < 1 ∨ 8 < who ∨ n < 1 ∨ 9999 < n then 1 else 0
def withE (v : List Int) (who n : Int) : Int := if vecE v = 0 then dotE who n else vecE v
def bothE (a b : List Int) : Int := if vecE a = 0 then vecE b else vecE a
def known (v : List Int) (who : Int) : Int := v.getD (who - 1).toNat 0
def hasB (v : List Int) (who n : Int) : Bool := decide (withE v who n = 0) && decide (n ≤ known v who)
def addE (v : List Int) (who n : Int) : Int :=
  if withE v who n ≠ 0 then withE v who n else if n ≤ known v who then 7 else if known v who + 1 < n then 6 else 0
def addV (v : List Int) (who n : Int) : List Int := if addE v who n = 0 then v.set (who - 1).toNat n else []
def mergeL (a b : List Int) : List Int := List.zipWith max a b
def mergeV (a b : List Int) : List Int := if bothE a b = 0 then mergeL a b else []
def more (a b : List Int) : Bool := (List.range 8).any fun i => decide (b.getD i 0 < a.getD i 0)
def cmpI (a b : List Int) : Int := if more a b && more b a then 0 else if more a b then 1 else if more b a then -1 else 0
def cmpK (a b : List Int) : Int := if bothE a b = 0 then cmpI a b else 0
def cmpB (a b : List Int) : Bool := decide (bothE a b = 0) && !(more a b && more b a)
def printL (v : List Int) : List UInt8 := join (v.map itoa) [46]
def printT (v : List Int) : List UInt8 := if vecE v = 0 then printL v else []
def nums : List (List UInt8) → Option (List Int)
  | [] => some []
  | x :: r => match numO x with
    | none => none
    | some n => (nums r).map fun l => n :: l
def parseE (s : List UInt8) : Int := match nums (cut s) with
  | none => 2
  | some v => vecE v
def parseV (s : List UInt8) : List Int := match nums (cut s) with
  | none => []
  | some v => if vecE v = 0 then v else []

theorem vecE_zero {v : List Int} : vecE v = 0 ↔ v.length = 8 ∧ ∀ n ∈ v, 0 ≤ n ∧ n ≤ 9999 := by
  unfold vecE
  by_cases h : v.length = 8
  · rw [if_pos h]
    by_cases h2 : v.any bad = true
    · rw [if_pos h2]
      refine ⟨fun e => absurd e (by decide), fun e => ?_⟩
      obtain ⟨n, hn, hb⟩ := List.any_eq_true.1 h2
      have := e.2 n hn
      simp [bad] at hb; omega
    · rw [if_neg h2]
      refine ⟨fun _ => ⟨h, fun n hn => ?_⟩, fun _ => rfl⟩
      have h3 : bad n = false := by
        cases hb : bad n
        · rfl
        · exact absurd (List.any_eq_true.2 ⟨n, hn, hb⟩) h2
      simp [bad] at h3; omega
  · rw [if_neg h]
    exact ⟨fun e => absurd e (by decide), fun e => absurd e.1 h⟩

theorem nums_itoa : ∀ (xs : List (List UInt8)) (v : List Int), nums xs = some v → v.map itoa = xs ∧ v.length = xs.length
  | [], v, h => by simp only [nums, Option.some.injEq] at h; subst h; exact ⟨rfl, rfl⟩
  | x :: r, v, h => by
    simp only [nums] at h
    cases hx : numO x with
    | none => rw [hx] at h; cases h
    | some n =>
      rw [hx] at h
      simp only at h
      cases hr : nums r with
      | none => rw [hr] at h; cases h
      | some l =>
        rw [hr] at h
        simp only [Option.map_some, Option.some.injEq] at h
        subst h
        obtain ⟨h1, h2⟩ := nums_itoa r l hr
        exact ⟨by rw [List.map_cons, (numO_itoa hx).1, h1], by simp [h2]⟩

theorem nums_of : ∀ (v : List Int), (∀ n ∈ v, 0 ≤ n ∧ n ≤ 9999) → nums (v.map itoa) = some v
  | [], _ => rfl
  | n :: r, h => by
    obtain ⟨u, rfl⟩ : ∃ u : Nat, n = u := ⟨n.toNat, by have := h n (by simp); omega⟩
    have hu := h u (by simp)
    simp only [List.map_cons, nums]
    rw [itoa_nat, numO_dec (by omega), nums_of r (fun m hm => h m (by simp [hm]))]
    rfl

/- what is read is written as it was -/
theorem print_parse {s : List UInt8} (h : parseE s = 0) : vecE (parseV s) = 0 ∧ printT (parseV s) = s := by
  unfold parseE at h
  unfold parseV printT printL
  cases hn : nums (cut s) with
  | none => rw [hn] at h; exact absurd h (by decide)
  | some v =>
    rw [hn] at h
    simp only at h ⊢
    rw [if_pos h]
    refine ⟨h, ?_⟩
    rw [if_pos h, (nums_itoa _ _ hn).1, join_cut]

theorem itoa_dot (n : Int) (h : 0 ≤ n) : (46 : UInt8) ∉ itoa n := by
  obtain ⟨u, rfl⟩ : ∃ u : Nat, n = u := ⟨n.toNat, by omega⟩
  rw [itoa_nat]; exact dec_dot u

/- what is written is read as it was -/
theorem parse_print {v : List Int} (h : vecE v = 0) : parseE (printT v) = 0 ∧ parseV (printT v) = v := by
  have hv := vecE_zero.1 h
  have hc : cut (printT v) = v.map itoa := by
    unfold printT printL
    rw [if_pos h]
    refine cut_join _ ?_ ?_
    · intro e
      have := congrArg List.length e
      simp at this
      rw [this] at hv; exact absurd hv.1 (by decide)
    · intro x hx
      obtain ⟨n, hn, rfl⟩ := List.mem_map.1 hx
      exact itoa_dot n (hv.2 n hn).1
  unfold parseE parseV
  rw [hc, nums_of v hv.2]
  simp only
  exact ⟨h, by rw [if_pos h]⟩

theorem mergeL_vec {a b : List Int} (ha : vecE a = 0) (hb : vecE b = 0) : vecE (mergeL a b) = 0 := by
  have ha' := vecE_zero.1 ha
  have hb' := vecE_zero.1 hb
  refine vecE_zero.2 ⟨by simp [mergeL]; omega, fun n hn => ?_⟩
  obtain ⟨i, hi, e⟩ := List.getElem_of_mem hn
  simp only [mergeL, List.length_zipWith] at hi
  simp only [mergeL, List.getElem_zipWith] at e
  have h1 := ha'.2 a[i] (List.getElem_mem _)
  have h2 := hb'.2 b[i] (List.getElem_mem _)
  omega

theorem mergeL_comm (a b : List Int) : mergeL a b = mergeL b a := by
  unfold mergeL
  exact List.zipWith_comm_of_comm (fun x y => by omega)

theorem mergeL_assoc : ∀ (a b c : List Int), mergeL (mergeL a b) c = mergeL a (mergeL b c)
  | [], _, _ => by simp [mergeL]
  | _ :: _, [], _ => by simp [mergeL]
  | _ :: _, _ :: _, [] => by simp [mergeL]
  | x :: a, y :: b, z :: c => by
    have := mergeL_assoc a b c
    simp only [mergeL] at this ⊢
    simp only [List.zipWith_cons_cons, this]
    congr 1; omega

theorem bothE_zero {a b : List Int} : bothE a b = 0 ↔ vecE a = 0 ∧ vecE b = 0 := by
  unfold bothE
  by_cases h : vecE a = 0
  · rw [if_pos h]; simp [h]
  · rw [if_neg h]; simp [h]

theorem more_merge {a b : List Int} (ha : vecE a = 0) (hb : vecE b = 0) : more a (mergeL a b) = false := by
  have ha' := vecE_zero.1 ha
  have hb' := vecE_zero.1 hb
  cases h : more a (mergeL a b) with
  | false => rfl
  | true =>
    obtain ⟨i, hi, h2⟩ := List.any_eq_true.1 h
    have hi8 : i < 8 := List.mem_range.1 hi
    simp only [decide_eq_true_eq, List.getD_eq_getElem?_getD] at h2
    rw [List.getElem?_eq_getElem (by simp [mergeL]; omega), List.getElem?_eq_getElem (by omega)] at h2
    simp only [mergeL, List.getElem_zipWith, Option.getD_some] at h2
    omega

theorem cmp_merge {a b : List Int} (ha : vecE a = 0) (hb : vecE b = 0) : cmpK a (mergeL a b) ≤ 0 ∧ cmpB a (mergeL a b) = true := by
  have hm := mergeL_vec ha hb
  have h1 := more_merge ha hb
  unfold cmpK cmpB cmpI
  rw [if_pos (bothE_zero.2 ⟨ha, hm⟩), h1]
  simp only [Bool.false_and, Bool.false_eq_true, if_false]
  refine ⟨by split <;> decide, by simp [bothE_zero.2 ⟨ha, hm⟩]⟩

theorem cmp_swap {a b : List Int} (ha : vecE a = 0) (hb : vecE b = 0) : cmpK b a = - cmpK a b ∧ cmpB b a = cmpB a b := by
  unfold cmpK cmpB cmpI
  rw [if_pos (bothE_zero.2 ⟨ha, hb⟩), if_pos (bothE_zero.2 ⟨hb, ha⟩)]
  cases more a b <;> cases more b a <;> simp [bothE_zero.2 ⟨ha, hb⟩, bothE_zero.2 ⟨hb, ha⟩]

/- a vector of which one author alone is known -/
def one (who k : Int) : List Int := (List.replicate 8 0).set (who - 1).toNat k
theorem one_vec {who k : Int} (h1 : 1 ≤ who) (h8 : who ≤ 8) (h0 : 0 ≤ k) (h9 : k ≤ 9999) : vecE (one who k) = 0 := by
  refine vecE_zero.2 ⟨by simp [one], fun n hn => ?_⟩
  rcases List.mem_or_eq_of_mem_set hn with h | h
  · simp at h; omega
  · omega
theorem one_known {who k : Int} (h1 : 1 ≤ who) (h8 : who ≤ 8) : known (one who k) who = k := by
  unfold known one
  rw [List.getD_eq_getElem?_getD, List.getElem?_set_self (by simp; omega)]; rfl
theorem one_set {who k m : Int} : (one who k).set (who - 1).toNat m = one who m := by
  unfold one; rw [List.set_set]
theorem one_zero {who : Int} : one who 0 = [0, 0, 0, 0, 0, 0, 0, 0] := by
  unfold one
  rw [show List.replicate 8 (0 : Int) = [0, 0, 0, 0, 0, 0, 0, 0] from rfl]
  apply List.ext_getElem?
  intro i
  rw [List.getElem?_set]
  split
  · next h =>
    subst h
    split
    · next h2 =>
      rw [show ([0, 0, 0, 0, 0, 0, 0, 0] : List Int) = List.replicate 8 0 from rfl, List.getElem?_replicate_of_lt (by simpa using h2)]
    · next h2 => rw [List.getElem?_eq_none (by simpa using h2)]
  · rfl

theorem dotE_zero {who n : Int} (h1 : 1 ≤ who) (h8 : who ≤ 8) (h0 : 1 ≤ n) (h9 : n ≤ 9999) : dotE who n = 0 := by
  unfold dotE; rw [if_neg (by omega)]
theorem one_with {who k n : Int} (h1 : 1 ≤ who) (h8 : who ≤ 8) (h0 : 0 ≤ k) (h9 : k ≤ 9999) (g0 : 1 ≤ n) (g9 : n ≤ 9999) : withE (one who k) who n = 0 := by
  unfold withE; rw [if_pos (one_vec h1 h8 h0 h9), dotE_zero h1 h8 g0 g9]
theorem one_add {who k : Int} (h1 : 1 ≤ who) (h8 : who ≤ 8) (h0 : 0 ≤ k) (h9 : k < 9999) : addE (one who k) who (k + 1) = 0 ∧ addV (one who k) who (k + 1) = one who (k + 1) := by
  have he : addE (one who k) who (k + 1) = 0 := by
    unfold addE
    rw [one_with h1 h8 h0 (by omega) (by omega) (by omega), one_known h1 h8, if_neg (by simp), if_neg (by omega), if_neg (by omega)]
  exact ⟨he, by unfold addV; rw [if_pos he, one_set]⟩
theorem one_late {who k : Int} (h1 : 1 ≤ who) (h8 : who ≤ 8) (h0 : 0 ≤ k) (h9 : k < 9998) : addE (one who k) who (k + 2) = 6 := by
  unfold addE
  rw [one_with h1 h8 h0 (by omega) (by omega) (by omega), one_known h1 h8, if_neg (by simp), if_neg (by omega), if_pos (by omega)]
theorem one_has {who k n : Int} (h1 : 1 ≤ who) (h8 : who ≤ 8) (h0 : 0 ≤ k) (h9 : k ≤ 9999) (g0 : 1 ≤ n) (g9 : n ≤ 9999) : hasB (one who k) who n = decide (n ≤ k) := by
  unfold hasB; rw [one_with h1 h8 h0 h9 g0 g9, one_known h1 h8]; simp

end Dm
end Go.Proofs.YtiiiineipajhmaaDoor
/- Small words for package dot's walks: an error of package api as a value, a list of ints that lies in memory. -/
namespace Go.Proofs.YtiiiineipajhmaaDoor
namespace Za
set_option linter.unusedVariables false
open Go.ChangeShapes Go.WideShapes Go.ChangeAt Go.RowKit

theorem ret_bool {a b : Bool} (h : a = b) : Ending.returned (.bool a) = .returned (.bool b) := by rw [h]
theorem ret_int {k : IntKind} {a b : Int} (h : a = b) : Ending.returned (.int k a) = .returned (.int k b) := by rw [h]
/- an error of package api: nil for 0 -/
def errV (n : Int) : Value := if n = 0 then .nilIface else .iface 44 (.int .i64 n)
theorem errV_zero : errV 0 = .nilIface := rfl
theorem errV_ne {n : Int} (h : n ≠ 0) : errV n = .iface 44 (.int .i64 n) := by unfold errV; rw [if_neg h]
theorem bel {w w1 w2 : World} (h1 : Below w.heap.size w w1) (h2 : Below w1.heap.size w1 w2) : Below w.heap.size w w2 :=
  h1.trans (h2.mono h1.size)

theorem bel_drew {B : Nat} {a w : World} (h : Below B a w) (q : Nat) : Below B a (w.drewN q) := ⟨h.os, h.tape, h.output, h.size, h.block⟩

/- a list of ints that lies in memory -/
def IntsIn (w : World) (p : Option Addr) (l : List Int) : Prop :=
  l = [] ∨ ∃ b o, p = some ⟨b, o, none⟩ ∧ ∀ j, j < l.length → w.cell? ⟨b, o + j, none⟩ = some (.int .i64 (l.getD j 0))
theorem IntsIn.below {w w' : World} {p : Option Addr} {l : List Int} (h : IntsIn w p l) (hb : Below w.heap.size w w') : IntsIn w' p l := by
  rcases h with h | ⟨b, o, hp, hc⟩
  · exact Or.inl h
  · refine Or.inr ⟨b, o, hp, fun j hj => ?_⟩
    have h1 := hc j hj
    rw [hb.cell (p := ⟨b, o + j, none⟩) (World.block_lt_of_cell? _ _ h1)]
    exact h1
/- one of them is written -/
theorem set_cells {w : World} {g o i : Nat} {l : List Int} {x : Int} (hi : i < l.length) (hc : ∀ j, j < l.length → w.cell? ⟨g, o + j, none⟩ = some (.int .i64 (l.getD j 0))) :
    ∀ j, j < (l.set i x).length → (w.setCell ⟨g, o + i, none⟩ (.int .i64 x)).cell? ⟨g, o + j, none⟩ = some (.int .i64 ((l.set i x).getD j 0)) := by
  intro j hj
  rw [List.length_set] at hj
  by_cases h : j = i
  · subst h
    rw [World.cell?_setCell_same _ _ _ (hc j hj), List.getD_eq_getElem?_getD, List.getElem?_set_self hj]; rfl
  · rw [World.cell?_setCell_other _ _ _ _ (by intro e; injection e; omega), hc j hj, List.getD_eq_getElem?_getD, List.getD_eq_getElem?_getD, List.getElem?_set_ne (by omega)]
theorem IntsIn.nil (w : World) (p : Option Addr) : IntsIn w p [] := Or.inl rfl
theorem IntsIn.some {w : World} {p : Option Addr} {l : List Int} (h : IntsIn w p l) (hl : l ≠ []) : ∃ b o, p = some ⟨b, o, none⟩ ∧ ∀ j, j < l.length → w.cell? ⟨b, o + j, none⟩ = some (.int .i64 (l.getD j 0)) := by
  rcases h with h | h
  · exact absurd h hl
  · exact h

theorem infoInt : (Tryd.prog.info? 3).map (fun i => (i.zero, i.size, i.bytes)) = some (some (.int .i64 0), 1, 8) := by kernel_rfl
theorem infoString : (Tryd.prog.info? 9).map (fun i => (i.zero, i.size, i.bytes)) = some (some (.string ByteArray.empty), 1, 16) := by kernel_rfl

end Za
end Go.Proofs.YtiiiineipajhmaaDoor
/- What dot.Check and dot.Vector answer. -/
namespace Go.Proofs.YtiiiineipajhmaaDoor
namespace Db
set_option linter.unusedVariables false
open Go.ChangeShapes Go.WideShapes Go.ChangeAt Go.RowKit Za

end Db
end Go.Proofs.YtiiiineipajhmaaDoor
/- What dot.checkBoth, dot.Merge and leafsame.Ints answer. -/
namespace Go.Proofs.YtiiiineipajhmaaDoor
namespace Dg
set_option linter.unusedVariables false
open Go.ChangeShapes Go.WideShapes Go.ChangeAt Go.RowKit Za Db

/- a row of the call's own that is filled, one cell after the other -/
def Fill (w : World) (g n : Nat) (F : Nat → Value) (k : Nat) (wr : World) : Prop :=
  (∀ j, j < k → wr.cell? ⟨g, j, none⟩ = some (F j)) ∧ (∀ j, j < n → ∃ v, wr.cell? ⟨g, j, none⟩ = some v) ∧ (∀ j, wr.frozen? ⟨g, j, none⟩ = false) ∧ Below w.heap.size w wr ∧ w.heap.size ≤ g
theorem Fill.start {w w1 : World} {t : TypeId} {F : Nat → Value} {n cap : Nat} {g : Nat} {xs : List Value} (hg : w.heap.size ≤ g) (h : w1.ownsRow g t 1 (.slice (some ⟨g, 0, none⟩) n cap) n xs) (hb : Below w.heap.size w w1) : Fill w g n F 0 w1 := by
  refine ⟨fun j hj => absurd hj (by omega), ?_, ?_, hb, hg⟩
  · intro j hj
    rcases h.2 with ⟨e, _⟩ | ⟨g', cap', cur, e, _, h2, h3, h4, h5, h6⟩
    · cases e
    · injection e with e1
      injection e1 with e1
      injection e1 with e1
      subst e1
      refine ⟨cur[j]'(by omega), ?_⟩
      simp only [World.cell?, h2]
      simp [show j < cur.size by omega]
  · intro j
    rcases h.2 with ⟨e, _⟩ | ⟨g', cap', cur, e, _, h2, h3, h4, h5, h6⟩
    · cases e
    · injection e with e1
      injection e1 with e1
      injection e1 with e1
      subst e1
      simp [World.frozen?, h2]
theorem Fill.step {w wr : World} {g n k : Nat} {F : Nat → Value} (h : Fill w g n F k wr) (hk : k < n) (v : Value) (hv : v = F k) : Fill w g n F (k + 1) (wr.setCell ⟨g, k, none⟩ v) := by
  obtain ⟨h1, h2, h3, h4, h5⟩ := h
  refine ⟨fun j hj => ?_, fun j hj => ?_, fun j => ?_, h4.setCell (p := ⟨g, k, none⟩) h5 _, h5⟩
  · by_cases e : j = k
    · subst e
      obtain ⟨u, hu⟩ := h2 j hk
      rw [World.cell?_setCell_same _ _ _ hu, hv]
    · rw [World.cell?_setCell_other _ _ _ _ (by intro e2; injection e2; omega)]
      exact h1 j (by omega)
  · obtain ⟨u, hu⟩ := h2 j hj
    exact cell?_setCell_some hu
  · rw [World.frozen?_setCell]; exact h3 j
theorem Fill.below {w wr w2 : World} {g n k : Nat} {F : Nat → Value} (h : Fill w g n F k wr) (hg : g < wr.heap.size) (hb : Below wr.heap.size wr w2) : Fill w g n F k w2 := by
  obtain ⟨h1, h2, h3, h4, h5⟩ := h
  refine ⟨fun j hj => ?_, fun j hj => ?_, fun j => ?_, bel h4 hb, h5⟩
  · rw [hb.cell (p := ⟨g, j, none⟩) hg]; exact h1 j hj
  · rw [hb.cell (p := ⟨g, j, none⟩) hg]; exact h2 j hj
  · rw [hb.frozen (p := ⟨g, j, none⟩) hg]; exact h3 j
theorem Fill.drew {w wr : World} {g n k : Nat} {F : Nat → Value} (h : Fill w g n F k wr) (q : Nat) : Fill w g n F k (wr.drewN q) :=
  ⟨h.1, h.2.1, h.2.2.1, bel_drew h.2.2.2.1 q, h.2.2.2.2⟩
theorem Fill.drew1 {w wr : World} {g n k : Nat} {F : Nat → Value} (h : Fill w g n F k wr) : Fill w g n F k wr.drew :=
  ⟨h.1, h.2.1, h.2.2.1, h.2.2.2.1.drew, h.2.2.2.2⟩
theorem Fill.lt {w wr : World} {g n k : Nat} {F : Nat → Value} (h : Fill w g n F k wr) (hn : 0 < n) : g < wr.heap.size := by
  obtain ⟨v, hv⟩ := h.2.1 0 hn
  exact World.block_lt_of_cell? _ _ hv
theorem Fill.ints {w wr : World} {g n : Nat} {F : Nat → Value} {l : List Int} (h : Fill w g n F n wr) (hl : l.length = n) (hF : ∀ j, j < n → F j = .int .i64 (l.getD j 0)) : IntsIn wr (some ⟨g, 0, none⟩) l :=
  Or.inr ⟨g, 0, rfl, fun j hj => by rw [Nat.zero_add, h.1 j (by omega), hF j (by omega)]⟩

theorem ints_any (p q : Option Addr) (n m c d : Nat) (a b : List Int) (w : World) (ha : a.length = n) (hb : b.length = m) (hn : n ≤ 1048576) (h1 : IntsIn w p a) (h2 : IntsIn w q b) :
    Calls Tryd.prog 8 #[.slice p n c, .slice q m d] w fun e w' => e = .returned (.bool (a == b)) ∧ Below w.heap.size w w' := by
  by_cases hnm : n = m
  · subst hnm
    have HA : Hid (a.length = n) := ha
    have HB : Hid (b.length = n) := hb
    by_cases h0 : n = 0
    · have HE : Hid ((a == b) = true) := by
        unfold Hid
        rw [List.eq_nil_of_length_eq_zero (ha.trans h0), List.eq_nil_of_length_eq_zero (hb.trans h0)]; rfl
      subst h0
      clear ha hb h1 h2
      go_enter Tryd.func8, Tryd.ntmps8
      go_wp2
      go_loop [5] (fun v => v = .int .i64 0) (fun _ => 0)
      case atStart => rfl
      case round =>
        obtain rfl := hrel
        go_wp2
        go_ret
        exact ⟨by rw [HE.out]; rfl, Below.refl _ _⟩
    · obtain ⟨b1, o1, rfl, c1⟩ := h1.some (by rintro rfl; exact h0 ha.symm)
      obtain ⟨b2, o2, rfl, c2⟩ := h2.some (by rintro rfl; exact h0 hb.symm)
      have C1 : Hid (∀ j, j < n → w.cell? ⟨b1, o1 + j, none⟩ = some (.int .i64 (a.getD j 0))) := fun j hj => c1 j (by omega)
      have C2 : Hid (∀ j, j < n → w.cell? ⟨b2, o2 + j, none⟩ = some (.int .i64 (b.getD j 0))) := fun j hj => c2 j (by omega)
      clear ha hb h1 h2 c1 c2 h0
      go_enter Tryd.func8, Tryd.ntmps8
      go_wp2
      go_loopw [5] (fun v wr => ∃ k : Nat, k ≤ n ∧ v = .int .i64 k ∧ Hid (∀ j, j < k → a.getD j 0 = b.getD j 0) ∧ Below w.heap.size w wr) (fun v _ => n - (intOf v).toNat)
      case atStart => exact ⟨0, by omega, rfl, fun j hj => absurd hj (by omega), Below.refl _ _⟩
      case round =>
        obtain ⟨k, hk, rfl, HK, hbel⟩ := hrel
        have HBE : Hid (Below w.heap.size w wr) := hbel
        clear hbel
        by_cases hlt : k < n
        · have hltz : (k : Int) < n := by omega
          have e1 := C1.out k hlt
          have e2 := C2.out k hlt
          obtain ⟨x, hx⟩ : ∃ x, x = a.getD k 0 := ⟨_, rfl⟩
          obtain ⟨y, hy⟩ : ∃ y, y = b.getD k 0 := ⟨_, rfl⟩
          rw [← hx] at e1
          rw [← hy] at e2
          have HX : Hid (x = a.getD k 0) := hx
          have HY : Hid (y = b.getD k 0) := hy
          clear hx hy
          have d1 : wr.cell? ⟨b1, o1 + k, none⟩ = some (.int .i64 x) := (HBE.out.cell (World.block_lt_of_cell? _ _ e1)).trans e1
          have d2 : wr.cell? ⟨b2, o2 + k, none⟩ = some (.int .i64 y) := (HBE.out.cell (World.block_lt_of_cell? _ _ e2)).trans e2
          clear e1 e2
          cases hxy : (x != y)
          case false =>
            go_wp2
            go_quiet (fail)
            go_wp2
            go_roundw
            case rel => exact ⟨k + 1, by omega, by go_num, fun j hj => by
              rcases Nat.lt_succ_iff_lt_or_eq.1 hj with h | rfl
              · exact HK.out j h
              · rw [← HX.out, ← HY.out]; simpa using hxy, bel_drew HBE.out _⟩
            case measure => simp [intOf]; omega
          case true =>
            go_wp2
            go_quiet (fail)
            go_wp2
            go_ret
            refine ⟨?_, bel_drew HBE.out _⟩
            refine ret_bool ?_
            cases he : (a == b)
            · rfl
            · have : a = b := by simpa using he
              rw [HX.out, HY.out, this] at hxy
              simp at hxy
        · obtain rfl : k = n := by omega
          go_wp2
          go_ret
          refine ⟨?_, HBE.out⟩
          refine ret_bool ?_
          have : a = b := by
            apply List.ext_getElem?
            intro i
            by_cases hi : i < k
            · have := HK.out i hi
              rw [List.getD_eq_getElem?_getD, List.getD_eq_getElem?_getD, List.getElem?_eq_getElem (by rw [HA.out]; exact hi), List.getElem?_eq_getElem (by rw [HB.out]; exact hi)] at this
              rw [List.getElem?_eq_getElem (by rw [HA.out]; exact hi), List.getElem?_eq_getElem (by rw [HB.out]; exact hi)]
              simpa using this
            · rw [List.getElem?_eq_none (by rw [HA.out]; omega), List.getElem?_eq_none (by rw [HB.out]; omega)]
          rw [this]; simp
  · have hnm' : ((n : Int) == (m : Int)) = false := by simp; omega
    have HE : Hid ((a == b) = false) := by
      unfold Hid
      cases he : (a == b)
      · rfl
      · have : a = b := by simpa using he
        subst this; omega
    clear ha hb h1 h2
    go_enter Tryd.func8, Tryd.ntmps8
    go_wp2
    go_ret
    exact ⟨by rw [HE.out]; rfl, Below.refl _ _⟩

theorem max_if (x y : Int) : (if x < y then y else x) = max x y := by
  rw [Int.max_def]; split <;> split <;> omega

end Dg
end Go.Proofs.YtiiiineipajhmaaDoor
