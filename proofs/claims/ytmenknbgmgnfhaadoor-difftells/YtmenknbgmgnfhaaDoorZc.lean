/- The plain mathematics of edits: what they make of a text, turned, and those from one text to another one. No program is named here. -/
import Derived.Test.YtmenknbgmgnfhaaDoorZb
namespace Go.Proofs.YtmenknbgmgnfhaaDoor
namespace Zc
set_option linter.unusedVariables false
open Zb
/- an edit -/
structure Ed where
  k : Int
  s : Int
  t : List UInt8
abbrev bad (a : List UInt8) (e : Ed) : Prop := e.k < 0 ∨ e.s < 0 ∨ e.k > a.length ∨ e.s > a.length - e.k
def rest (a : List UInt8) (e : Ed) : List UInt8 := a.drop (e.k.toNat + e.s.toNat)
def run : List UInt8 → List Ed → Option (List UInt8)
  | a, [] => some a
  | a, e :: l => if bad a e then none else (run (rest a e) l).map fun t => a.take e.k.toNat ++ e.t ++ t
theorem run_bad {a : List UInt8} {e : Ed} {l : List Ed} (h : bad a e) : run a (e :: l) = none := by rw [run, if_pos h]
theorem run_ok {a : List UInt8} {e : Ed} {l : List Ed} (h : ¬ bad a e) : run a (e :: l) = (run (rest a e) l).map fun t => a.take e.k.toNat ++ e.t ++ t := by rw [run, if_neg h]
theorem nb {a : List UInt8} {e : Ed} (h : ¬ bad a e) : ∃ k s : Nat, e.k = k ∧ e.s = s ∧ k + s ≤ a.length := by
  unfold bad at h
  exact ⟨e.k.toNat, e.s.toNat, by omega, by omega, by omega⟩
/- how many letters are struck, and written -/
def cost : List Ed → Nat
  | [] => 0
  | e :: l => e.s.toNat + e.t.length + cost l
/- how long it is then -/
theorem run_long : ∀ {l : List Ed} {a t : List UInt8}, run a l = some t → t.length + (l.map fun e => e.s.toNat).sum = a.length + (l.map fun e => e.t.length).sum
  | [], a, t, h => by simp [run] at h; subst h; simp
  | e :: l, a, t, h => by
    by_cases hb : bad a e
    · rw [run_bad hb] at h; cases h
    · rw [run_ok hb] at h
      obtain ⟨u, hu, rfl⟩ := Option.map_eq_some_iff.1 h
      have := run_long hu
      obtain ⟨k, s, e1, e2, e3⟩ := nb hb
      unfold rest at this
      simp [e1, e2] at this ⊢
      omega
/- no one strikes more than there is -/
theorem run_strike : ∀ {l : List Ed} {a t : List UInt8}, run a l = some t → ∀ e ∈ l, 0 ≤ e.s ∧ e.s.toNat ≤ a.length ∧ e.t.length ≤ t.length
  | [], a, t, h => by intro e he; cases he
  | e :: l, a, t, h => by
    by_cases hb : bad a e
    · rw [run_bad hb] at h; cases h
    · rw [run_ok hb] at h
      obtain ⟨u, hu, rfl⟩ := Option.map_eq_some_iff.1 h
      obtain ⟨k, s, e1, e2, e3⟩ := nb hb
      intro x hx
      rcases List.mem_cons.1 hx with rfl | hx
      · simp; omega
      · have := run_strike hu x hx
        unfold rest at this
        simp at this ⊢; omega
/- turned -/
def turn : List UInt8 → List Ed → List Ed
  | _, [] => []
  | a, e :: l => ⟨e.k, e.t.length, (a.drop e.k.toNat).take e.s.toNat⟩ :: turn (rest a e) l
theorem turn_len : ∀ (l : List Ed) (a : List UInt8), (turn a l).length = l.length
  | [], _ => rfl
  | e :: l, a => by simp [turn, turn_len l]
theorem turn_run : ∀ {l : List Ed} {a t : List UInt8}, run a l = some t → run t (turn a l) = some a
  | [], a, t, h => by simp [run] at h; subst h; rfl
  | e :: l, a, t, h => by
    by_cases hb : bad a e
    · rw [run_bad hb] at h; cases h
    · rw [run_ok hb] at h
      obtain ⟨u, hu, rfl⟩ := Option.map_eq_some_iff.1 h
      obtain ⟨k, s, e1, e2, e3⟩ := nb hb
      have ih := turn_run hu
      have hk : (a.take k).length = k := by simp; omega
      rw [turn, run_ok]
      · rw [e1, e2]
        have h1 : rest (a.take k ++ e.t ++ u) ⟨(k : Int), (e.t.length : Int), (a.drop (k : Int).toNat).take (s : Int).toNat⟩ = u := by
          unfold rest; simp only [Int.toNat_natCast]
          rw [List.append_assoc, ← List.drop_drop, List.drop_left' hk, List.drop_left' rfl]
        simp only [Int.toNat_natCast] at h1 ⊢
        rw [h1, ih]
        simp only [Option.map_some, Option.some.injEq]
        rw [List.append_assoc (a.take k), List.take_left' hk]
        unfold rest
        rw [e1, e2]
        simp only [Int.toNat_natCast]
        rw [← List.drop_drop, List.append_assoc, List.take_append_drop, List.take_append_drop]
      · unfold bad; rw [e1]; simp; omega
theorem turn_cost : ∀ {l : List Ed} {a t : List UInt8}, run a l = some t → cost (turn a l) = cost l
  | [], a, t, h => rfl
  | e :: l, a, t, h => by
    by_cases hb : bad a e
    · rw [run_bad hb] at h; cases h
    · rw [run_ok hb] at h
      obtain ⟨u, hu, rfl⟩ := Option.map_eq_some_iff.1 h
      obtain ⟨k, s, e1, e2, e3⟩ := nb hb
      have ih := turn_cost hu
      simp [turn, cost, ih, e1, e2]; omega
/- from one to the other -/
def difF : Nat → List UInt8 → List UInt8 → List Ed
  | 0, _, _ => []
  | n + 1, a, b => if a.drop (same a b) = [] ∧ b.drop (same a b) = [] then []
    else ⟨same a b, (other (a.drop (same a b)) (b.drop (same a b))).1, (b.drop (same a b)).take (other (a.drop (same a b)) (b.drop (same a b))).2⟩ :: difF n ((a.drop (same a b)).drop (other (a.drop (same a b)) (b.drop (same a b))).1) ((b.drop (same a b)).drop (other (a.drop (same a b)) (b.drop (same a b))).2)
def dif (a b : List UInt8) : List Ed := difF (a.length + b.length + 1) a b
theorem pos_of {u v : List UInt8} (h : ¬ (u = [] ∧ v = [])) : 0 < u.length + v.length := by
  rcases Nat.eq_zero_or_pos (u.length + v.length) with h0 | h0
  · exact absurd ⟨List.length_eq_zero_iff.1 (by omega), List.length_eq_zero_iff.1 (by omega)⟩ h
  · exact h0
theorem less_by {a b : List UInt8} (h : ¬ (a.drop (same a b) = [] ∧ b.drop (same a b) = [])) : ((a.drop (same a b)).drop (other (a.drop (same a b)) (b.drop (same a b))).1).length + ((b.drop (same a b)).drop (other (a.drop (same a b)) (b.drop (same a b))).2).length < a.length + b.length := by
  have h1 := pos_of h
  have h2 := other_pos (same_apart a b) h1
  have h3 := other_ok (a.drop (same a b)) (b.drop (same a b))
  have h4 := h3.l; have h5 := h3.r
  simp only [List.length_drop] at *
  omega
theorem difF_more : ∀ (n m : Nat) (a b : List UInt8), a.length + b.length < n → a.length + b.length < m → difF n a b = difF m a b
  | 0, m, a, b, h, _ => absurd h (by omega)
  | n + 1, 0, a, b, _, h => absurd h (by omega)
  | n + 1, m + 1, a, b, h, g => by
    rw [difF, difF]
    by_cases hn : a.drop (same a b) = [] ∧ b.drop (same a b) = []
    · rw [if_pos hn, if_pos hn]
    · have hl := less_by hn
      rw [if_neg hn, if_neg hn, difF_more n m _ _ (by omega) (by omega)]
theorem dif_none {a b : List UInt8} (h : a.drop (same a b) = [] ∧ b.drop (same a b) = []) : dif a b = [] := by rw [dif, difF, if_pos h]
theorem dif_some {a b : List UInt8} (h : ¬ (a.drop (same a b) = [] ∧ b.drop (same a b) = [])) : dif a b = ⟨same a b, (other (a.drop (same a b)) (b.drop (same a b))).1, (b.drop (same a b)).take (other (a.drop (same a b)) (b.drop (same a b))).2⟩ :: dif ((a.drop (same a b)).drop (other (a.drop (same a b)) (b.drop (same a b))).1) ((b.drop (same a b)).drop (other (a.drop (same a b)) (b.drop (same a b))).2) := by
  have hl := less_by h
  rw [dif, difF, if_neg h, dif, difF_more (a.length + b.length) _ _ _ (by omega) (Nat.lt_succ_self _)]
theorem dif_self (a : List UInt8) : dif a a = [] := dif_none (by rw [same_self]; simp)
structure Dif (a b : List UInt8) (l : List Ed) : Prop where
  run : run a l = some b
  cost : cost l = least a b
  len : 3 * l.length ≤ a.length + b.length + 2
  len' : Goes a b → 3 * l.length ≤ a.length + b.length
theorem dif_okN : ∀ (n : Nat) (a b : List UInt8), a.length + b.length < n → Dif a b (dif a b)
  | 0, a, b, hn => absurd hn (by omega)
  | n + 1, a, b, hn => by
    have hK := same_K a b
    have hl := same_le_l a b
    have hr := same_le_r a b
    by_cases h : a.drop (same a b) = [] ∧ b.drop (same a b) = []
    · rw [dif_none h]
      have hb : a = b := by
        have := same_take a b
        have t1 := List.take_append_drop (same a b) a
        have t2 := List.take_append_drop (same a b) b
        rw [h.1, List.append_nil] at t1
        rw [h.2, List.append_nil] at t2
        exact t1.symm.trans (this.trans t2)
      have e1 : a.length = same a b := by have := congrArg List.length h.1; simp at this; omega
      have e2 : b.length = same a b := by have := congrArg List.length h.2; simp at this; omega
      rw [h.1, h.2, K_nil] at hK
      refine ⟨by rw [hb]; rfl, ?_, by simp, by simp⟩
      show 0 = least a b
      unfold least; omega
    · have hp := pos_of h
      have h2 := other_pos (same_apart a b) hp
      have o := other_ok (a.drop (same a b)) (b.drop (same a b))
      have h4 := o.l; have h5 := o.r
      have ih := dif_okN n ((a.drop (same a b)).drop (other (a.drop (same a b)) (b.drop (same a b))).1) ((b.drop (same a b)).drop (other (a.drop (same a b)) (b.drop (same a b))).2) (by have := less_by h; omega)
      have hs := same_take a b
      rw [dif_some h]
      generalize other (a.drop (same a b)) (b.drop (same a b)) = p at *
      obtain ⟨s, t⟩ := p
      generalize hk : same a b = k at *
      simp only [List.length_drop] at h4 h5 hp h2
      obtain ⟨i1, i2, i3, i4⟩ := ih
      refine ⟨?_, ?_, ?_, ?_⟩
      · rw [run_ok]
        · have h1 : rest a ⟨(k : Int), (s : Int), (b.drop k).take t⟩ = (a.drop k).drop s := by
            unfold rest; simp only [Int.toNat_natCast]; rw [List.drop_drop]
          show (run (rest a ⟨(k : Int), (s : Int), (b.drop k).take t⟩) _).map _ = _
          rw [h1, i1]
          simp only [Option.map_some, Int.toNat_natCast, hs, List.append_assoc, List.take_append_drop]
        · unfold bad; simp; omega
      · have g := o.k
        have l1 := least_add a b
        have l2 := least_add ((a.drop k).drop s) ((b.drop k).drop t)
        simp only [Zc.cost, i2, Int.toNat_natCast, List.length_take, List.length_drop] at *
        omega
      · have := i4 o.g
        simp only [List.length_cons, List.length_drop] at *
        omega
      · intro hg
        have := i4 o.g
        have : 0 < k := by
          rcases hg with ⟨g1, g2⟩ | ⟨x, xs, ys, g1, g2⟩
          · rw [g1, g2] at hp; simp at hp
          · rw [← hk, g1, g2]; exact same_pos
        simp only [List.length_cons, List.length_drop] at *
        omega
theorem dif_ok (a b : List UInt8) : Dif a b (dif a b) := dif_okN _ a b (Nat.lt_succ_self _)
/- the least cost, row by row -/
def pl (a b : List UInt8) (i k : Nat) : Nat := least (a.take i).reverse (b.take k).reverse
theorem pl_zero (a b : List UInt8) {k : Nat} (hk : k ≤ b.length) : pl a b 0 k = k := by
  unfold pl least; simp [K_nil']; omega
theorem pl_zero' (a b : List UInt8) {i : Nat} (hi : i ≤ a.length) : pl a b i 0 = i := by
  unfold pl least; simp [K_nil]; omega
theorem pl_all (a b : List UInt8) : pl a b a.length b.length = least a b := by
  unfold pl least; simp [K_rev]
theorem take_rev {a : List UInt8} {i : Nat} (h : i < a.length) : (a.take (i + 1)).reverse = a[i] :: (a.take i).reverse := by
  rw [List.take_succ_eq_append_getElem h]; simp
/- the next one of a row -/
def nx (up left corner : Nat) (eq : Bool) : Nat := if eq = true ∧ corner < (if left + 1 < up + 1 then left + 1 else up + 1) then corner else if left + 1 < up + 1 then left + 1 else up + 1
theorem pl_next (a b : List UInt8) {i k : Nat} (hi : i < a.length) (hk : k < b.length) : pl a b (i + 1) (k + 1) = nx (pl a b i (k + 1)) (pl a b (i + 1) k) (pl a b i k) (a[i] == b[k]) := by
  unfold pl
  rw [take_rev hi, take_rev hk]
  have lA : (a.take i).reverse.length = i := by simp; omega
  have lB : (b.take k).reverse.length = k := by simp; omega
  generalize (a.take i).reverse = A at *
  generalize (b.take k).reverse = B at *
  generalize a[i] = x at *
  generalize b[k] = y at *
  have g1 := least_add (x :: A) (y :: B)
  have g2 := least_add A (y :: B)
  have g3 := least_add (x :: A) B
  have g4 := least_add A B
  have s1 := K_step_r A y B
  have s2 := K_step_l x A B
  simp only [List.length_cons] at g1 g2 g3 g4
  unfold nx
  by_cases h : x = y
  · subst h
    rw [K_eq] at g1
    simp only [beq_self_eq_true, true_and]
    split <;> split at * <;> omega
  · rw [K_ne h] at g1
    have : (x == y) = false := by simpa using h
    simp only [this]
    simp
    split <;> omega
theorem pl_le (a b : List UInt8) (i k : Nat) : pl a b i k ≤ i + k := by
  unfold pl least; simp; omega
end Zc
end Go.Proofs.YtmenknbgmgnfhaaDoor
