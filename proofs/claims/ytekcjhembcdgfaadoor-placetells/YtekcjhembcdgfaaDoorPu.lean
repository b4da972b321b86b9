/- Behind a place, and ahead of it, there is room that is no longer than the place. No program is named here. -/
import Derived.Test.YtekcjhembcdgfaaDoorPs
namespace Go.Proofs.YtekcjhembcdgfaaDoor
namespace Pm
open Op (bytesLess)

theorem chk_parts {p : List UInt8} (h : chk p = 0) : 2 ≤ p.length ∧ p.length ≤ 12 ∧ p.all isLet = true ∧ (p.dropLast.getLast? == some 97) = false ∧ isWho (whoOf p) = true := by
  unfold chk at h
  by_cases h1 : 12 < p.length
  · rw [if_pos h1] at h; cases h
  rw [if_neg h1] at h
  by_cases h2 : p.length < 2
  · rw [if_pos h2] at h; cases h
  rw [if_neg h2] at h
  cases h3 : p.all isLet with
  | false => rw [h3] at h; simp at h
  | true =>
    cases h4 : (p.dropLast.getLast? == some 97) with
    | true => rw [h3, h4] at h; simp at h
    | false =>
      cases h5 : isWho (whoOf p) with
      | false => rw [h3, h4, h5] at h; simp at h
      | true => exact ⟨by omega, by omega, rfl, rfl, rfl⟩

/- a place: a text, a letter that is not a, the author's letter -/
theorem chk_form {p : List UInt8} (h : chk p = 0) : ∃ s c x, p = s ++ [c, x] ∧ s.all isLet = true ∧ isLet c = true ∧ c ≠ 97 ∧ 98 ≤ x.toNat ∧ x.toNat ≤ 105 ∧ s.length + 2 = p.length := by
  obtain ⟨h2, h12, hl, hc, hw⟩ := chk_parts h
  have hne : p ≠ [] := by intro e; rw [e] at h2; simp at h2
  have hne2 : p.dropLast ≠ [] := by
    intro e
    have := congrArg List.length e
    rw [List.length_dropLast] at this
    simp at this; omega
  have e1 : p = p.dropLast ++ [p.getLast hne] := (List.dropLast_concat_getLast hne).symm
  have e2 : p.dropLast = p.dropLast.dropLast ++ [p.dropLast.getLast hne2] := (List.dropLast_concat_getLast hne2).symm
  generalize p.getLast hne = x at e1
  generalize p.dropLast.getLast hne2 = c at e2
  generalize p.dropLast.dropLast = s at e2
  rw [e2, List.append_assoc] at e1
  have e3 : p = s ++ [c, x] := e1
  rw [e2] at hc
  subst e3
  clear e1 hne hne2 e2
  simp only [List.all_append, Bool.and_eq_true, List.all_cons, List.all_nil, Bool.and_true] at hl
  have hx : whoOf (s ++ [c, x]) = (x.toNat : Int) - 97 := by simp [whoOf, List.getLast?_append]
  rw [hx] at hw
  simp only [isWho, Bool.and_eq_true, decide_eq_true_eq] at hw
  refine ⟨s, c, x, rfl, hl.1, hl.2.1, ?_, by omega, by omega, by simp⟩
  simpa [List.getLast?_append] using hc

theorem less_same (s : List UInt8) (u v : List UInt8) : bytesLess (s ++ u) (s ++ v) = bytesLess u v := by
  induction s with
  | nil => rfl
  | cons x s ih =>
    simp only [List.cons_append, bytesLess, ih]
    have : ¬ x < x := by intro h; have : x.toNat < x.toNat := UInt8.lt_iff_toNat_lt.1 h; omega
    simp [this]

theorem up_short {p : List UInt8} (h : chk p = 0) : ∃ t, stem t p [] = true ∧ t.all isLet = true ∧ t.length = p.length := by
  obtain ⟨s, c, x, rfl, hs, hcl, hc, h1, h2, hlen⟩ := chk_form h
  refine ⟨(s ++ [c]) ++ [UInt8.ofNat (x.toNat + 1)], ?_, ?_, by simp⟩
  · have e : (UInt8.ofNat (x.toNat + 1)).toNat = x.toNat + 1 := by simp; omega
    have hlt : bytesLess (s ++ [c, x]) ((s ++ [c]) ++ [UInt8.ofNat (x.toNat + 1)]) = true := by
      rw [show s ++ [c, x] = (s ++ [c]) ++ [x] from by simp, less_same]
      simp only [bytesLess, Bool.or_eq_true, decide_eq_true_eq]
      left; rw [UInt8.lt_iff_toNat_lt, e]; omega
    have hin : inside ((s ++ [c]) ++ [UInt8.ofNat (x.toNat + 1)]) (s ++ [c, x]) [] = true := by
      simp only [inside, Bool.and_eq_true, Bool.not_eq_true', Bool.or_eq_false_iff]
      refine ⟨⟨less_asymm hlt, ?_⟩, rfl⟩
      rw [beq_eq_false_iff_ne]
      intro e2; rw [e2, less_irrefl] at hlt; cases hlt
    unfold stem
    rw [hin, Bool.true_and, Bool.and_eq_true]
    refine ⟨?_, ?_⟩
    · simp only [List.getLast?_append, List.getLast?_singleton, Option.some_or, bne_iff_ne, ne_eq, Option.some.injEq]
      intro e2
      have := congrArg UInt8.toNat e2
      rw [e] at this; simp at this; omega
    · cases s <;> simp
  · simp only [List.all_append, hs, hcl, Bool.and_eq_true, List.all_cons, List.all_nil, Bool.and_true]
    refine ⟨trivial, ?_⟩
    simp [isLet]; omega

theorem down_short {p : List UInt8} (h : chk p = 0) : ∃ t, stem t [] p = true ∧ t.all isLet = true ∧ t.length = p.length := by
  obtain ⟨s, c, x, rfl, hs, hcl, hc, h1, h2, hlen⟩ := chk_form h
  have hc2 : 98 ≤ c.toNat ∧ c.toNat ≤ 122 := by
    simp only [isLet, decide_eq_true_eq] at hcl
    have : c.toNat ≠ 97 := fun e => hc (UInt8.toNat_inj.1 e)
    omega
  have e : (UInt8.ofNat (c.toNat - 1)).toNat = c.toNat - 1 := by simp; omega
  refine ⟨s ++ [UInt8.ofNat (c.toNat - 1), 98], ?_, ?_, by simp⟩
  · have hlt : bytesLess (s ++ [UInt8.ofNat (c.toNat - 1), 98]) (s ++ [c, x]) = true := by
      rw [less_same]
      simp only [bytesLess, Bool.or_eq_true, decide_eq_true_eq]
      left; rw [UInt8.lt_iff_toNat_lt, e]; omega
    have hin : inside (s ++ [UInt8.ofNat (c.toNat - 1), 98]) [] (s ++ [c, x]) = true := by
      simp only [inside, Bool.and_eq_true, Bool.not_eq_true', Bool.or_eq_false_iff]
      refine ⟨⟨?_, ?_⟩, ?_⟩
      · cases s <;> rfl
      · rw [beq_eq_false_iff_ne]; intro e2; simp at e2
      · rw [hlt]; simp
    unfold stem
    rw [hin, Bool.true_and, Bool.and_eq_true]
    refine ⟨?_, ?_⟩
    · simp [List.getLast?_append]
    · rw [Bool.not_eq_true', Bool.eq_false_iff]
      intro hp
      obtain ⟨r, hr⟩ := List.isPrefixOf_iff_prefix.1 hp
      rw [List.append_assoc, List.append_cancel_left_eq] at hr
      simp only [List.cons_append, List.cons.injEq] at hr
      have := congrArg UInt8.toNat hr.1
      rw [e] at this; omega
  · simp only [List.all_append, hs, Bool.and_eq_true, List.all_cons, List.all_nil, Bool.and_true]
    refine ⟨trivial, ?_, by decide⟩
    simp [isLet]; omega

/- one step of a row: nothing is wrong but that there is no room; what is made is at most one longer -/
theorem found_len {a b : List UInt8} {who : Int} {k : Nat} (h : betErr a b who = 0) (hk : k ≤ 11 → ∃ t, stem t a b = true ∧ t.all isLet = true ∧ t.length = k) (h0 : 0 < k) :
    (betText a b who).length ≤ k + 1 ∧ 0 < (betText a b who).length := by
  obtain ⟨t, m, ht, hr, hrl, hmade, _⟩ := made_of h
  have hlen : (betText a b who).length = m + 1 := by rw [ht]; simp [hmade.lens]
  rw [hlen]
  refine ⟨?_, by omega⟩
  rcases Nat.lt_or_ge 11 k with hb | hb
  · have := hmade.m11; omega
  · obtain ⟨t2, h1, h2, h3⟩ := hk hb
    obtain ⟨m2, h4, h5, h6⟩ := found_short h1 h2 (by omega) (by omega)
    have hs : sides a b = 0 := by
      by_cases hs : sides a b = 0
      · exact hs
      · simp [roomErr, hs] at hr
    have hrl2 : roomLen a b = (m2 : Int) + 1 := by
      obtain ⟨hne, m3, _, _, hfl, _⟩ := search_found 11 0 [[]] _ Flat.start h6
      have h00 : 0 < (lev a b m2).length := by
        cases hc : lev a b m2 with
        | nil => exact absurd hc hne
        | cons _ _ => simp
      have e0 : (lev a b m2).getD 0 [] = (lev a b m2)[0] := by rw [List.getD_eq_getElem?_getD, List.getElem?_eq_getElem h00]; rfl
      simp only [roomLen, hs, h6]
      rw [e0]
      have hm2 : ((lev a b m2)[0]).length = m2 := by
        have hmem := List.getElem_mem h00
        have := (List.mem_filter.1 hmem).1
        have key : ∀ k t, t ∈ texts k → t.length = k := by
          intro k
          induction k with
          | zero => intro t ht; simp [texts] at ht; simp [ht]
          | succ k ih =>
            intro t ht
            obtain ⟨s, hs, c, hc, rfl⟩ := mem_exts ht
            simp [ih s hs]
        exact key _ _ this
      rw [hm2]; simp
    rw [hrl] at hrl2
    omega

theorem betErr_free {a b : List UInt8} {who : Int} (hw : isWho who = true) (hs : sides a b = 0) : betErr a b who = 0 ∨ betErr a b who = 8 := by
  unfold betErr roomErr
  rw [hw, hs]
  cases search a b 11 [[]] with
  | none => right; simp
  | some _ => left; simp

theorem sides_up {p : List UInt8} (h : p = [] ∨ chk p = 0) : sides p [] = 0 ∧ sides [] p = 0 := by
  rcases h with rfl | h
  · exact ⟨rfl, rfl⟩
  · constructor <;> simp [sides, h]

theorem row_first {who : Int} (hw : isWho who = true) : betErr [] [] who = 0 ∧ (betText [] [] who).length ≤ 2 := by
  have h0 : betErr [] [] who = betErr [] [] 1 := by unfold betErr; rw [hw]; rfl
  have h1 : betErr [] [] who = 0 := by rw [h0]; exact first_bet.1
  obtain ⟨t, m, ht, hr, hrl, hmade, hother⟩ := made_of first_bet.1
  have e1 := (hother who h1).1
  have e2 := (hother 1 first_bet.1).1
  rw [first_bet.2.1] at e2
  have e3 := congrArg List.length e2
  simp at e3
  exact ⟨h1, by rw [e1]; simp; omega⟩

theorem hb_bet : betErr [104, 98] [] 1 = 0 ∧ (bytesLess (betText [104, 98] [] 1) [104, 98] || betText [104, 98] [] 1 == [104, 98]) = false ∧ betErr [] [] 0 = 1 := by decide +kernel

end Pm
end Go.Proofs.YtekcjhembcdgfaaDoor
