/- What is true of the place between, by lists. No program is named here. -/
import Derived.Test.YtekcjhembcdgfaaDoorPq
namespace Go.Proofs.YtekcjhembcdgfaaDoor
namespace Pm
open Op (bytesLess)

theorem less_irrefl : ∀ a : List UInt8, bytesLess a a = false
  | [] => rfl
  | x :: r => by simp [bytesLess, less_irrefl r]
theorem less_asymm : ∀ {a b : List UInt8}, bytesLess a b = true → bytesLess b a = false
  | _, [], h => by simp [bytesLess] at h
  | [], _ :: _, _ => rfl
  | x :: r, y :: s, h => by
    simp only [bytesLess, Bool.or_eq_true, decide_eq_true_eq, Bool.and_eq_true, beq_iff_eq] at h
    simp only [bytesLess, Bool.or_eq_false_iff, decide_eq_false_iff_not, Bool.and_eq_false_iff]
    rcases h with h | ⟨rfl, h⟩
    · have h2 : x.toNat < y.toNat := UInt8.lt_iff_toNat_lt.1 h
      refine ⟨fun h3 => ?_, Or.inl ?_⟩
      · have : y.toNat < x.toNat := UInt8.lt_iff_toNat_lt.1 h3
        omega
      · rw [beq_eq_false_iff_ne]
        intro e; subst e; omega
    · exact ⟨fun h3 => by have : x.toNat < x.toNat := UInt8.lt_iff_toNat_lt.1 h3; omega, Or.inr (less_asymm h)⟩
theorem less_total : ∀ {a b : List UInt8}, bytesLess a b = false → a ≠ b → bytesLess b a = true
  | [], [], _, h => absurd rfl h
  | _ :: _, [], _, _ => rfl
  | [], _ :: _, h, _ => by simp [bytesLess] at h
  | x :: r, y :: s, h, hne => by
    simp only [bytesLess, Bool.or_eq_false_iff, decide_eq_false_iff_not, Bool.and_eq_false_iff] at h
    simp only [bytesLess, Bool.or_eq_true, decide_eq_true_eq, Bool.and_eq_true, beq_iff_eq]
    by_cases e : x = y
    · subst e
      right
      refine ⟨rfl, less_total ?_ ?_⟩
      · rcases h.2 with h2 | h2
        · simp at h2
        · exact h2
      · intro e2; exact hne (by rw [e2])
    · left
      rw [UInt8.lt_iff_toNat_lt]
      have h1 : ¬ x.toNat < y.toNat := fun h3 => h.1 (UInt8.lt_iff_toNat_lt.2 h3)
      have h2 : x.toNat ≠ y.toNat := fun h3 => e (UInt8.toNat_inj.1 h3)
      omega
theorem less_append {t : List UInt8} (r : List UInt8) : ∀ {a : List UInt8}, bytesLess a t = true → bytesLess a (t ++ r) = true := by
  induction t with
  | nil => intro a h; cases a <;> simp [bytesLess] at h
  | cons y s ih =>
    intro a h
    cases a with
    | nil => rfl
    | cons x q =>
      simp only [List.cons_append, bytesLess, Bool.or_eq_true, decide_eq_true_eq, Bool.and_eq_true, beq_iff_eq] at h ⊢
      rcases h with h | ⟨h1, h2⟩
      · exact Or.inl h
      · exact Or.inr ⟨h1, ih h2⟩
theorem less_apart (r : List UInt8) : ∀ {t b : List UInt8}, bytesLess t b = true → t.isPrefixOf b = false → bytesLess (t ++ r) b = true
  | [], b, _, h => by simp at h
  | _ :: _, [], h, _ => by simp [bytesLess] at h
  | x :: t, y :: b, h, hp => by
    simp only [List.cons_append, bytesLess, Bool.or_eq_true, decide_eq_true_eq, Bool.and_eq_true, beq_iff_eq] at h ⊢
    rcases h with h | ⟨rfl, h2⟩
    · exact Or.inl h
    · refine Or.inr ⟨rfl, less_apart r h2 ?_⟩
      simpa [List.isPrefixOf] using hp

/- what stands where there is a place between -/
structure Made (a b : List UInt8) (who : Int) (t : List UInt8) (m : Nat) : Prop where
  who1 : 1 ≤ who
  who8 : who ≤ 8
  lens : t.length = m
  pos : 0 < m
  m11 : m ≤ 11
  lets : t.all isLet = true
  stem : stem t a b = true

theorem made_of {a b : List UInt8} {who : Int} (h : betErr a b who = 0) : ∃ t, ∃ m : Nat, betText a b who = t ++ [UInt8.ofNat (97 + who.toNat)] ∧ roomErr a b = 0 ∧ roomLen a b = (m : Int) + 1 ∧ Made a b who t m ∧
    ∀ o, betErr a b o = 0 → betText a b o = t ++ [UInt8.ofNat (97 + o.toNat)] ∧ 1 ≤ o ∧ o ≤ 8 := by
  cases hw : isWho who with
  | false => simp [betErr, hw] at h
  | true =>
    have hr : roomErr a b = 0 := by simpa [betErr, hw] using h
    have hwho : 1 ≤ who ∧ who ≤ 8 := by simpa [isWho] using hw
    by_cases hs : sides a b = 0
    · cases hf : search a b 11 [[]] with
      | none => simp [roomErr, hs, hf] at hr
      | some st =>
        obtain ⟨hne, m, hm1, hm2, hfl, hst⟩ := search_found 11 0 [[]] st Flat.start hf
        have h0 : 0 < st.length := by cases st with
          | nil => exact absurd rfl hne
          | cons _ _ => simp
        have hq : (st.length - 1) / 4 < st.length := by omega
        have e : pick st = st[(st.length - 1) / 4] := by unfold pick; rw [List.getD_eq_getElem?_getD, List.getElem?_eq_getElem hq]; rfl
        have e0 : st.getD 0 [] = st[0] := by rw [List.getD_eq_getElem?_getD, List.getElem?_eq_getElem h0]; rfl
        have hmem : pick st ∈ st := by rw [e]; exact List.getElem_mem hq
        refine ⟨pick st, m, by simp [betText, hw, hs, hf], hr, ?_, ⟨hwho.1, hwho.2, (hfl _ hmem).1, by omega, by omega, (hfl _ hmem).2, hst _ hmem⟩, ?_⟩
        · simp only [roomLen, hs, hf]
          have := (hfl _ (List.getElem_mem h0)).1
          rw [e0, this]; simp
        · intro o ho
          cases hwo : isWho o with
          | false => simp [betErr, hwo] at ho
          | true =>
            have hwo2 : 1 ≤ o ∧ o ≤ 8 := by simpa [isWho] using hwo
            exact ⟨by simp [betText, hwo, hs, hf], hwo2⟩
    · simp [roomErr, hs] at hr

theorem whoOf_made (t : List UInt8) (who : Int) (h1 : 1 ≤ who) (h8 : who ≤ 8) : whoOf (t ++ [UInt8.ofNat (97 + who.toNat)]) = who := by
  unfold whoOf
  have : (UInt8.ofNat (97 + who.toNat)).toNat = 97 + who.toNat := by simp; omega
  simp only [List.getLast?_append, List.getLast?_singleton, Option.some_or, Option.getD_some, this]
  omega

theorem chk_made {a b : List UInt8} {who : Int} {t : List UInt8} {m : Nat} (h : Made a b who t m) : chk (t ++ [UInt8.ofNat (97 + who.toNat)]) = 0 := by
  obtain ⟨h1, h8, hl, h0, h11, hlet, hst⟩ := h
  have e1 : (t ++ [UInt8.ofNat (97 + who.toNat)]).length = m + 1 := by simp [hl]
  have e2 : (t ++ [UInt8.ofNat (97 + who.toNat)]).all isLet = true := by
    rw [List.all_append, hlet]; simp [isLet]; omega
  have e3 : ((t ++ [UInt8.ofNat (97 + who.toNat)]).dropLast.getLast? == some 97) = false := by
    have : (t ++ [UInt8.ofNat (97 + who.toNat)]).dropLast = t := by simp
    rw [this]
    simp only [stem, Bool.and_eq_true] at hst
    simpa using hst.1.2
  have e4 : isWho (whoOf (t ++ [UInt8.ofNat (97 + who.toNat)])) = true := by
    rw [whoOf_made t who h1 h8]; simp [isWho, h1, h8]
  unfold chk
  rw [e1, e2, e3, e4, if_neg (by omega), if_neg (by omega)]
  rfl

theorem above_made {a b : List UInt8} {who : Int} {t : List UInt8} {m : Nat} (h : Made a b who t m) (r : List UInt8) : (bytesLess (t ++ r) a || (t ++ r) == a) = false := by
  have hst := h.stem
  simp only [stem, inside, Bool.and_eq_true] at hst
  have h1 := hst.1.1.1
  simp only [Bool.not_eq_true', Bool.or_eq_false_iff, beq_eq_false_iff_ne] at h1
  have h2 := less_append r (less_total h1.1 h1.2)
  rw [less_asymm h2, Bool.false_or, beq_eq_false_iff_ne]
  intro e
  rw [e, less_irrefl] at h2
  cases h2

theorem below_made {a b : List UInt8} {who : Int} {t : List UInt8} {m : Nat} (h : Made a b who t m) (r : List UInt8) (hb : b.isEmpty = false) : bytesLess (t ++ r) b = true := by
  have hst := h.stem
  simp only [stem, inside, Bool.and_eq_true] at hst
  have h1 := hst.1.1.2
  rw [hb, Bool.false_or] at h1
  exact less_apart r h1 (by simpa using hst.2)

theorem same_made (t : List UInt8) (o who : Int) (h1 : 1 ≤ who) (h8 : who ≤ 8) (o1 : 1 ≤ o) (o8 : o ≤ 8) :
    ((t ++ [UInt8.ofNat (97 + o.toNat)]) == (t ++ [UInt8.ofNat (97 + who.toNat)])) = (o == who) := by
  rw [Bool.eq_iff_iff]
  simp only [beq_iff_eq, List.append_cancel_left_eq, List.cons.injEq, and_true]
  constructor
  · intro h
    have h2 := congrArg UInt8.toNat h
    simp at h2
    omega
  · intro h; rw [h]

theorem first_bet : betErr [] [] 1 = 0 ∧ betText [] [] 1 = [104, 98] ∧ chk [104, 98] = 0 := by decide +kernel

end Pm
end Go.Proofs.YtekcjhembcdgfaaDoor
