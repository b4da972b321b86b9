/- The plain mathematics of what two texts have in common. No program is named here. -/
import GoSem.Op.String
namespace Go.Proofs.YtmenknbgmgnfhaaDoor
namespace Zb
set_option linter.unusedVariables false

/- how many letters can be kept at most; as many steps as both texts are long will do -/
def Kf : Nat → List UInt8 → List UInt8 → Nat
  | n + 1, x :: xs, y :: ys => if x = y then Kf n xs ys + 1 else max (Kf n xs (y :: ys)) (Kf n (x :: xs) ys)
  | _, _, _ => 0
def K (a b : List UInt8) : Nat := Kf (a.length + b.length) a b
theorem Kf_more : ∀ (n m : Nat) (a b : List UInt8), a.length + b.length ≤ n → a.length + b.length ≤ m → Kf n a b = Kf m a b
  | n, m, [], b, _, _ => by cases n <;> cases m <;> rfl
  | n, m, x :: xs, [], _, _ => by cases n <;> cases m <;> rfl
  | 0, m, x :: xs, y :: ys, h, _ => absurd h (by simp)
  | n + 1, 0, x :: xs, y :: ys, _, h => absurd h (by simp)
  | n + 1, m + 1, x :: xs, y :: ys, h, g => by
    have e1 : (x :: xs).length = xs.length + 1 := rfl
    have e2 : (y :: ys).length = ys.length + 1 := rfl
    show (if x = y then Kf n xs ys + 1 else max (Kf n xs (y :: ys)) (Kf n (x :: xs) ys)) = (if x = y then Kf m xs ys + 1 else max (Kf m xs (y :: ys)) (Kf m (x :: xs) ys))
    rw [Kf_more n m xs ys (by omega) (by omega), Kf_more n m xs (y :: ys) (by omega) (by omega), Kf_more n m (x :: xs) ys (by omega) (by omega)]
theorem K_nil (a : List UInt8) : K a [] = 0 := by cases a <;> rfl
theorem K_nil' (b : List UInt8) : K [] b = 0 := by cases b <;> rfl
theorem K_cons (x y : UInt8) (xs ys : List UInt8) : K (x :: xs) (y :: ys) = if x = y then K xs ys + 1 else max (K xs (y :: ys)) (K (x :: xs) ys) := by
  have e1 : (x :: xs).length = xs.length + 1 := rfl
  have e2 : (y :: ys).length = ys.length + 1 := rfl
  have e : K (x :: xs) (y :: ys) = Kf (xs.length + ys.length + 1 + 1) (x :: xs) (y :: ys) := Kf_more _ _ _ _ (Nat.le_refl _) (by omega)
  rw [e]
  show (if x = y then Kf (xs.length + ys.length + 1) xs ys + 1 else max (Kf (xs.length + ys.length + 1) xs (y :: ys)) (Kf (xs.length + ys.length + 1) (x :: xs) ys)) = _
  unfold K
  rw [Kf_more _ (xs.length + ys.length) xs ys (by omega) (by omega), Kf_more _ (xs.length + (y :: ys).length) xs (y :: ys) (by omega) (by omega), Kf_more _ ((x :: xs).length + ys.length) (x :: xs) ys (by omega) (by omega)]
theorem K_eq (x : UInt8) (xs ys : List UInt8) : K (x :: xs) (x :: ys) = K xs ys + 1 := by rw [K_cons, if_pos rfl]
theorem K_ne {x y : UInt8} (h : x ≠ y) (xs ys : List UInt8) : K (x :: xs) (y :: ys) = max (K xs (y :: ys)) (K (x :: xs) ys) := by rw [K_cons, if_neg h]
theorem K_maxN : ∀ (n : Nat) {c a b : List UInt8}, a.length + b.length ≤ n → c.Sublist a → c.Sublist b → c.length ≤ K a b
  | n, c, [], b, hn, ha, hb => by cases ha; exact Nat.zero_le _
  | n, c, x :: xs, [], hn, ha, hb => by cases hb; exact Nat.zero_le _
  | 0, c, x :: xs, y :: ys, hn, ha, hb => absurd hn (by simp)
  | n + 1, c, x :: xs, y :: ys, hn, ha, hb => by
    have e1 : (x :: xs).length = xs.length + 1 := rfl
    have e2 : (y :: ys).length = ys.length + 1 := rfl
    by_cases h : x = y
    · subst h
      rw [K_eq]
      cases ha with
      | cons _ ha =>
        cases hb with
        | cons _ hb => have := K_maxN n (by omega) ha hb; omega
        | cons_cons _ hb =>
          have := K_maxN n (by omega) ((List.sublist_cons_self _ _).trans ha) hb
          simp; omega
      | cons_cons _ ha =>
        cases hb with
        | cons _ hb =>
          have := K_maxN n (by omega) ha ((List.sublist_cons_self _ _).trans hb)
          simp; omega
        | cons_cons _ hb => have := K_maxN n (by omega) ha hb; simp; omega
    · rw [K_ne h]
      cases ha with
      | cons _ ha => have := K_maxN n (by omega) ha hb; omega
      | cons_cons _ ha =>
        cases hb with
        | cons _ hb => have := K_maxN n (by omega) (ha.cons_cons x) hb; omega
        | cons_cons _ hb => exact absurd rfl h
theorem K_max {c a b : List UInt8} (ha : c.Sublist a) (hb : c.Sublist b) : c.length ≤ K a b := K_maxN _ (Nat.le_refl _) ha hb
theorem K_subN : ∀ (n : Nat) (a b : List UInt8), a.length + b.length ≤ n → ∃ c : List UInt8, c.Sublist a ∧ c.Sublist b ∧ c.length = K a b
  | n, [], b, _ => ⟨[], List.Sublist.refl _, List.nil_sublist _, by rw [K_nil']; rfl⟩
  | n, x :: xs, [], _ => ⟨[], List.nil_sublist _, List.Sublist.refl _, by rw [K_nil]; rfl⟩
  | 0, x :: xs, y :: ys, hn => absurd hn (by simp)
  | n + 1, x :: xs, y :: ys, hn => by
    have e1 : (x :: xs).length = xs.length + 1 := rfl
    have e2 : (y :: ys).length = ys.length + 1 := rfl
    by_cases h : x = y
    · subst h
      obtain ⟨c, h1, h2, h3⟩ := K_subN n xs ys (by omega)
      exact ⟨x :: c, h1.cons_cons x, h2.cons_cons x, by rw [K_eq, ← h3]; rfl⟩
    · rw [K_ne h]
      rcases Nat.le_total (K xs (y :: ys)) (K (x :: xs) ys) with g | g
      · obtain ⟨c, h1, h2, h3⟩ := K_subN n (x :: xs) ys (by omega)
        exact ⟨c, h1, h2.cons y, by omega⟩
      · obtain ⟨c, h1, h2, h3⟩ := K_subN n xs (y :: ys) (by omega)
        exact ⟨c, h1.cons x, h2, by omega⟩
theorem K_sub (a b : List UInt8) : ∃ c : List UInt8, c.Sublist a ∧ c.Sublist b ∧ c.length = K a b := K_subN _ a b (Nat.le_refl _)
theorem K_le_l (a b : List UInt8) : K a b ≤ a.length := by obtain ⟨c, h1, h2, h3⟩ := K_sub a b; have := h1.length_le; omega
theorem K_le_r (a b : List UInt8) : K a b ≤ b.length := by obtain ⟨c, h1, h2, h3⟩ := K_sub a b; have := h2.length_le; omega
theorem K_of_sub {a b : List UInt8} (h : a.Sublist b) : K a b = a.length := Nat.le_antisymm (K_le_l a b) (K_max (List.Sublist.refl _) h)
theorem K_of_sub' {a b : List UInt8} (h : b.Sublist a) : K a b = b.length := Nat.le_antisymm (K_le_r a b) (K_max h (List.Sublist.refl _))
theorem K_rev (a b : List UInt8) : K a.reverse b.reverse = K a b := by
  refine Nat.le_antisymm ?_ ?_
  · obtain ⟨c, h1, h2, h3⟩ := K_sub a.reverse b.reverse
    rw [← h3, ← List.length_reverse]
    exact K_max (by simpa using h1.reverse) (by simpa using h2.reverse)
  · obtain ⟨c, h1, h2, h3⟩ := K_sub a b
    rw [← h3, ← List.length_reverse]
    exact K_max h1.reverse h2.reverse
theorem K_step_r (a : List UInt8) (y : UInt8) (b : List UInt8) : K a b ≤ K a (y :: b) ∧ K a (y :: b) ≤ K a b + 1 := by
  refine ⟨?_, ?_⟩
  · obtain ⟨c, h1, h2, h3⟩ := K_sub a b
    rw [← h3]; exact K_max h1 (h2.cons y)
  · obtain ⟨c, h1, h2, h3⟩ := K_sub a (y :: b)
    rw [← h3]
    cases h2 with
    | cons _ h2 => have := K_max h1 h2; omega
    | cons_cons _ h2 => have := K_max ((List.sublist_cons_self _ _).trans h1) h2; simp; omega
theorem K_step_l (x : UInt8) (a b : List UInt8) : K a b ≤ K (x :: a) b ∧ K (x :: a) b ≤ K a b + 1 := by
  refine ⟨?_, ?_⟩
  · obtain ⟨c, h1, h2, h3⟩ := K_sub a b
    rw [← h3]; exact K_max (h1.cons x) h2
  · obtain ⟨c, h1, h2, h3⟩ := K_sub (x :: a) b
    rw [← h3]
    cases h1 with
    | cons _ h1 => have := K_max h1 h2; omega
    | cons_cons _ h1 => have := K_max h1 ((List.sublist_cons_self _ _).trans h2); simp; omega
/- two that a text has have so much in common -/
theorem both_sub : ∀ {b c d : List UInt8}, c.Sublist b → d.Sublist b → ∃ e : List UInt8, e.Sublist c ∧ e.Sublist d ∧ c.length + d.length ≤ b.length + e.length
  | [], c, d, hc, hd => by cases hc; cases hd; exact ⟨[], List.Sublist.refl _, List.Sublist.refl _, Nat.le_refl _⟩
  | x :: b, c, d, hc, hd => by
    cases hc with
    | cons _ hc =>
      cases hd with
      | cons _ hd => obtain ⟨e, h1, h2, h3⟩ := both_sub hc hd; exact ⟨e, h1, h2, by simp; omega⟩
      | cons_cons _ hd => obtain ⟨e, h1, h2, h3⟩ := both_sub hc hd; exact ⟨e, h1, h2.cons x, by simp; omega⟩
    | cons_cons _ hc =>
      cases hd with
      | cons _ hd => obtain ⟨e, h1, h2, h3⟩ := both_sub hc hd; exact ⟨e, h1.cons x, h2, by simp; omega⟩
      | cons_cons _ hd => obtain ⟨e, h1, h2, h3⟩ := both_sub hc hd; exact ⟨x :: e, h1.cons_cons x, h2.cons_cons x, by simp; omega⟩
theorem K_tri (a b c : List UInt8) : K a b + K b c ≤ b.length + K a c := by
  obtain ⟨u, h1, h2, h3⟩ := K_sub a b
  obtain ⟨v, g1, g2, g3⟩ := K_sub b c
  obtain ⟨e, e1, e2, e3⟩ := both_sub h2 g1
  have := K_max (e1.trans h1) (e2.trans g2)
  omega
/- the least cost -/
def least (a b : List UInt8) : Nat := a.length + b.length - 2 * K a b
theorem least_add (a b : List UInt8) : least a b + 2 * K a b = a.length + b.length := by
  have h1 := K_le_l a b; have h2 := K_le_r a b; unfold least; omega
theorem least_tri (a b c : List UInt8) : least a c ≤ least a b + least b c := by
  have h1 := least_add a b; have h2 := least_add b c; have h3 := least_add a c; have h4 := K_tri a b c; omega
theorem least_put (u v w : List UInt8) : least (u ++ v) (u ++ w ++ v) = w.length := by
  have h : (u ++ v).Sublist (u ++ w ++ v) := (List.sublist_append_left u w).append (List.Sublist.refl v)
  have h1 := least_add (u ++ v) (u ++ w ++ v)
  rw [K_of_sub h] at h1
  simp at h1 ⊢; omega
theorem least_put' (u v w : List UInt8) : least (u ++ w ++ v) (u ++ v) = w.length := by
  have h : (u ++ v).Sublist (u ++ w ++ v) := (List.sublist_append_left u w).append (List.Sublist.refl v)
  have h1 := least_add (u ++ w ++ v) (u ++ v)
  rw [K_of_sub' h] at h1
  simp at h1 ⊢; omega

/- the letters with which both begin -/
def same : List UInt8 → List UInt8 → Nat
  | x :: xs, y :: ys => if x = y then same xs ys + 1 else 0
  | _, _ => 0
theorem same_le_l : ∀ (a b : List UInt8), same a b ≤ a.length
  | [], _ => by simp [same]
  | _ :: _, [] => by simp [same]
  | x :: xs, y :: ys => by unfold same; split <;> simp; exact same_le_l xs ys
theorem same_le_r : ∀ (a b : List UInt8), same a b ≤ b.length
  | [], _ => by simp [same]
  | _ :: _, [] => by simp [same]
  | x :: xs, y :: ys => by unfold same; split <;> simp; exact same_le_r xs ys
theorem same_K : ∀ (a b : List UInt8), K a b = same a b + K (a.drop (same a b)) (b.drop (same a b))
  | [], b => by simp [same, K_nil']
  | _ :: _, [] => by simp [same, K_nil]
  | x :: xs, y :: ys => by
    by_cases h : x = y
    · subst h; rw [K_eq, same_K xs ys]; simp [same]; omega
    · simp [same, h]
theorem same_take : ∀ (a b : List UInt8), a.take (same a b) = b.take (same a b)
  | [], b => by simp [same]
  | _ :: _, [] => by simp [same]
  | x :: xs, y :: ys => by
    by_cases h : x = y
    · subst h; simp [same]; exact same_take xs ys
    · simp [same, h]
theorem same_self : ∀ (a : List UInt8), same a a = a.length
  | [] => rfl
  | x :: xs => by simp [same]; exact same_self xs
/- behind them they are not the same -/
def apart : List UInt8 → List UInt8 → Prop
  | x :: _, y :: _ => x ≠ y
  | _, _ => True
theorem same_apart : ∀ (a b : List UInt8), apart (a.drop (same a b)) (b.drop (same a b))
  | [], b => by simp [same, apart]
  | x :: xs, [] => by simp [same, apart]
  | x :: xs, y :: ys => by
    by_cases h : x = y
    · subst h; simp [same]; exact same_apart xs ys
    · simp [same, h, apart]
theorem same_pos {x : UInt8} {xs ys : List UInt8} : 0 < same (x :: xs) (x :: ys) := by simp [same]

/- what is best struck, and written, up to the next letter that can be kept -/
def otherf : Nat → List UInt8 → List UInt8 → Nat × Nat
  | n + 1, x :: xs, y :: ys => if x = y then (0, 0) else if K (x :: xs) ys ≤ K xs (y :: ys) then ((otherf n xs (y :: ys)).1 + 1, (otherf n xs (y :: ys)).2) else ((otherf n (x :: xs) ys).1, (otherf n (x :: xs) ys).2 + 1)
  | _, a, b => (a.length, b.length)
def other (a b : List UInt8) : Nat × Nat := otherf (a.length + b.length) a b
theorem otherf_more : ∀ (n m : Nat) (a b : List UInt8), a.length + b.length ≤ n → a.length + b.length ≤ m → otherf n a b = otherf m a b
  | n, m, [], b, _, _ => by cases n <;> cases m <;> rfl
  | n, m, x :: xs, [], _, _ => by cases n <;> cases m <;> rfl
  | 0, m, x :: xs, y :: ys, h, _ => absurd h (by simp)
  | n + 1, 0, x :: xs, y :: ys, _, h => absurd h (by simp)
  | n + 1, m + 1, x :: xs, y :: ys, h, g => by
    have e1 : (x :: xs).length = xs.length + 1 := rfl
    have e2 : (y :: ys).length = ys.length + 1 := rfl
    show (if x = y then (0, 0) else if K (x :: xs) ys ≤ K xs (y :: ys) then ((otherf n xs (y :: ys)).1 + 1, (otherf n xs (y :: ys)).2) else ((otherf n (x :: xs) ys).1, (otherf n (x :: xs) ys).2 + 1)) = (if x = y then (0, 0) else if K (x :: xs) ys ≤ K xs (y :: ys) then ((otherf m xs (y :: ys)).1 + 1, (otherf m xs (y :: ys)).2) else ((otherf m (x :: xs) ys).1, (otherf m (x :: xs) ys).2 + 1))
    rw [otherf_more n m xs (y :: ys) (by omega) (by omega), otherf_more n m (x :: xs) ys (by omega) (by omega)]
theorem other_nil (a : List UInt8) : other a [] = (a.length, 0) := by cases a <;> rfl
theorem other_nil' (b : List UInt8) : other [] b = (0, b.length) := by cases b <;> rfl
theorem other_cons (x y : UInt8) (xs ys : List UInt8) : other (x :: xs) (y :: ys) = if x = y then (0, 0) else if K (x :: xs) ys ≤ K xs (y :: ys) then ((other xs (y :: ys)).1 + 1, (other xs (y :: ys)).2) else ((other (x :: xs) ys).1, (other (x :: xs) ys).2 + 1) := by
  have e1 : (x :: xs).length = xs.length + 1 := rfl
  have e2 : (y :: ys).length = ys.length + 1 := rfl
  have e : other (x :: xs) (y :: ys) = otherf (xs.length + ys.length + 1 + 1) (x :: xs) (y :: ys) := otherf_more _ _ _ _ (Nat.le_refl _) (by omega)
  have f1 : otherf (xs.length + ys.length + 1) xs (y :: ys) = other xs (y :: ys) := otherf_more _ _ _ _ (by omega) (Nat.le_refl _)
  have f2 : otherf (xs.length + ys.length + 1) (x :: xs) ys = other (x :: xs) ys := otherf_more _ _ _ _ (by omega) (Nat.le_refl _)
  rw [e, ← f1, ← f2]
  rfl
theorem other_eq (x : UInt8) (xs ys : List UInt8) : other (x :: xs) (x :: ys) = (0, 0) := by rw [other_cons, if_pos rfl]
theorem other_l {x y : UInt8} {xs ys : List UInt8} (h : x ≠ y) (g : K (x :: xs) ys ≤ K xs (y :: ys)) : other (x :: xs) (y :: ys) = ((other xs (y :: ys)).1 + 1, (other xs (y :: ys)).2) := by rw [other_cons, if_neg h, if_pos g]
theorem other_r {x y : UInt8} {xs ys : List UInt8} (h : x ≠ y) (g : ¬ K (x :: xs) ys ≤ K xs (y :: ys)) : other (x :: xs) (y :: ys) = ((other (x :: xs) ys).1, (other (x :: xs) ys).2 + 1) := by rw [other_cons, if_neg h, if_neg g]
/- what is left then: nothing, or a letter that is kept -/
def Goes (a b : List UInt8) : Prop := (a = [] ∧ b = []) ∨ ∃ x xs ys, a = x :: xs ∧ b = x :: ys
theorem Goes.none : Goes [] [] := Or.inl ⟨rfl, rfl⟩
theorem Goes.keep (x : UInt8) (xs ys : List UInt8) : Goes (x :: xs) (x :: ys) := Or.inr ⟨x, xs, ys, rfl, rfl⟩
structure Oth (a b : List UInt8) (s t : Nat) : Prop where
  l : s ≤ a.length
  r : t ≤ b.length
  k : K a b = K (a.drop s) (b.drop t)
  g : Goes (a.drop s) (b.drop t)
theorem other_okN : ∀ (n : Nat) (a b : List UInt8), a.length + b.length ≤ n → Oth a b (other a b).1 (other a b).2
  | n, [], b, _ => by rw [other_nil']; exact ⟨Nat.le_refl _, Nat.le_refl _, by simp [K_nil'], by simpa using Goes.none⟩
  | n, x :: xs, [], _ => by rw [other_nil]; exact ⟨Nat.le_refl _, Nat.le_refl _, by simp [K_nil], by simpa using Goes.none⟩
  | 0, x :: xs, y :: ys, hn => absurd hn (by simp)
  | n + 1, x :: xs, y :: ys, hn => by
    have e1 : (x :: xs).length = xs.length + 1 := rfl
    have e2 : (y :: ys).length = ys.length + 1 := rfl
    by_cases h : x = y
    · subst h; rw [other_eq]; exact ⟨Nat.zero_le _, Nat.zero_le _, rfl, Goes.keep x xs ys⟩
    · by_cases g : K (x :: xs) ys ≤ K xs (y :: ys)
      · rw [other_l h g]
        have o := other_okN n xs (y :: ys) (by omega)
        refine ⟨by simpa using o.l, o.r, ?_, ?_⟩
        · rw [K_ne h, Nat.max_eq_left g, o.k]; simp
        · simpa using o.g
      · rw [other_r h g]
        have o := other_okN n (x :: xs) ys (by omega)
        refine ⟨o.l, by simpa using o.r, ?_, ?_⟩
        · rw [K_ne h, Nat.max_eq_right (by omega), o.k]; simp
        · simpa using o.g
theorem other_ok (a b : List UInt8) : Oth a b (other a b).1 (other a b).2 := other_okN _ a b (Nat.le_refl _)
theorem other_pos : ∀ {a b : List UInt8}, apart a b → 0 < a.length + b.length → 0 < (other a b).1 + (other a b).2
  | [], b, _, h => by rw [other_nil']; simpa using h
  | x :: xs, [], _, h => by rw [other_nil]; simp
  | x :: xs, y :: ys, ha, h => by
    have h' : x ≠ y := ha
    by_cases g : K (x :: xs) ys ≤ K xs (y :: ys)
    · rw [other_l h' g]; simp; omega
    · rw [other_r h' g]; show 0 < (other (x :: xs) ys).1 + ((other (x :: xs) ys).2 + 1); omega


end Zb
end Go.Proofs.YtmenknbgmgnfhaaDoor
