/- Who wrote what: the plain mathematics of package stat (no program is named here). -/
import Derived.Test.YtiiiineipajhmaaJ1
namespace Go.Proofs.Ytiiiineipajhmaa
namespace Sq1
set_option linter.unusedVariables false
open Bm

abbrev Pr := Int × Int
def zp : Pr := (0, 0)
def who (x : Leaf) : Int := Pm.whoOf x.1.toList
/- one more letter of an author behind the last one -/
def lastP (r : List Pr) : Pr := r.getD (r.length - 1) zp
def goesOn (r : List Pr) (a : Int) : Bool := decide (r ≠ []) && decide ((lastP r).1 = a)
def addR (r : List Pr) (a : Int) : List Pr := if goesOn r a = true then r.set (r.length - 1) ((lastP r).1, (lastP r).2 + 1) else r ++ [(a, 1)]
def stepR (r : List Pr) (x : Leaf) : List Pr := if isS x = true then addR r (who x) else r
def runs (l : List Leaf) : List Pr := l.foldl stepR []
def tot : List Int → Int
  | [] => 0
  | x :: l => x + tot l
def at8 (y : Pr) : Nat := (y.1 - 1).toNat
def addW (v : List Int) (y : Pr) : List Int := v.set (at8 y) (v.getD (at8 y) 0 + y.2)
def wrt (r : List Pr) : List Int := r.foldl addW [0, 0, 0, 0, 0, 0, 0, 0]
def struck (l : List Leaf) : Nat := (l.filter fun x => x.2.2).length
def longer (m : Nat) (x : Leaf) : Nat := max m x.1.size
def longest (l : List Leaf) : Nat := l.foldl longer 0

theorem snoc {α : Type} (l : List α) (z : α) {k : Nat} (hk : k < l.length) : l.take (k + 1) = l.take k ++ [l.getD k z] := by
  rw [List.take_succ_eq_append_getElem hk, List.getD_eq_getElem?_getD, List.getElem?_eq_getElem hk]; rfl
theorem runs_take {l : List Leaf} {k : Nat} (hk : k < l.length) : runs (l.take (k + 1)) = stepR (runs (l.take k)) (l.getD k none0) := by
  rw [snoc l none0 hk]; unfold runs; rw [List.foldl_append]; rfl
theorem wrt_take {r : List Pr} {k : Nat} (hk : k < r.length) : wrt (r.take (k + 1)) = addW (wrt (r.take k)) (r.getD k zp) := by
  rw [snoc r zp hk]; unfold wrt; rw [List.foldl_append]; rfl
theorem struck_take {l : List Leaf} {k : Nat} (hk : k < l.length) : struck (l.take (k + 1)) = if (l.getD k none0).2.2 = true then struck (l.take k) + 1 else struck (l.take k) := by
  rw [snoc l none0 hk]; unfold struck; rw [List.filter_append, List.length_append]
  generalize l.getD k none0 = x
  rw [List.filter_cons]
  split <;> simp
theorem longest_take {l : List Leaf} {k : Nat} (hk : k < l.length) : longest (l.take (k + 1)) = max (longest (l.take k)) (l.getD k none0).1.size := by
  rw [snoc l none0 hk]; unfold longest; rw [List.foldl_append]; rfl
theorem struck_le (l : List Leaf) : struck l ≤ l.length := List.length_filter_le _ _
theorem tot_append : ∀ a b : List Int, tot (a ++ b) = tot a + tot b
  | [], b => by simp [tot]
  | x :: a, b => by rw [List.cons_append, tot, tot, tot_append a b]; omega
theorem tot_set : ∀ (l : List Int) (i : Nat) (x : Int), i < l.length → tot (l.set i x) = tot l - l.getD i 0 + x
  | [], i, x, h => absurd h (by simp)
  | y :: l, 0, x, h => by simp [tot]; omega
  | y :: l, i + 1, x, h => by
    have := tot_set l i x (by simpa using h)
    rw [List.set_cons_succ, tot, tot, this]; simp; omega
theorem tot_le : ∀ (l : List Int), (∀ x ∈ l, 0 ≤ x) → ∀ i, l.getD i 0 ≤ tot l
  | [], _, i => by simp [tot]
  | y :: l, h, i => by
    have h1 := h y (by simp)
    have h2 := tot_le l (fun x hx => h x (by simp [hx]))
    have h3 : 0 ≤ tot l := by
      have := h2 l.length
      rwa [List.getD_eq_getElem?_getD, List.getElem?_eq_none (Nat.le_refl _)] at this
    cases i with
    | zero => simp [tot]; omega
    | succ i => have := h2 i; simp [tot] at this ⊢; omega
/- runs of n letters -/
structure Rn (r : List Pr) (n : Nat) : Prop where
  who : ∀ j, j < r.length → 1 ≤ (r.getD j zp).1 ∧ (r.getD j zp).1 ≤ 8
  many : ∀ j, j < r.length → 1 ≤ (r.getD j zp).2
  sum : tot (r.map (·.2)) = n
  apart : ∀ j, j + 1 < r.length → (r.getD j zp).1 ≠ (r.getD (j + 1) zp).1
theorem Rn.nil : Rn [] 0 := ⟨fun j h => absurd h (by simp), fun j h => absurd h (by simp), rfl, fun j h => absurd h (by simp)⟩
theorem getD_set_self {α : Type} (l : List α) (i : Nat) (x z : α) (h : i < l.length) : (l.set i x).getD i z = x := by
  rw [List.getD_eq_getElem?_getD, List.getElem?_set_self h]; rfl
theorem getD_set_ne {α : Type} (l : List α) (i j : Nat) (x z : α) (h : i ≠ j) : (l.set i x).getD j z = l.getD j z := by
  rw [List.getD_eq_getElem?_getD, List.getD_eq_getElem?_getD, List.getElem?_set_ne h]
theorem getD_left {α : Type} (l m : List α) (z : α) {j : Nat} (h : j < l.length) : (l ++ m).getD j z = l.getD j z := by
  rw [List.getD_eq_getElem?_getD, List.getD_eq_getElem?_getD, List.getElem?_append_left h]
theorem getD_new {α : Type} (l : List α) (x z : α) : (l ++ [x]).getD l.length z = x := by
  rw [List.getD_eq_getElem?_getD, List.getElem?_append_right (Nat.le_refl _)]; simp
theorem Rn.add {r : List Pr} {n : Nat} (h : Rn r n) {a : Int} (h1 : 1 ≤ a) (h8 : a ≤ 8) : Rn (addR r a) (n + 1) := by
  unfold addR
  by_cases hg : goesOn r a = true
  · rw [if_pos hg]
    simp only [goesOn, Bool.and_eq_true, decide_eq_true_eq] at hg
    obtain ⟨hne, ha⟩ := hg
    have hpos : 0 < r.length := List.length_pos_iff.2 hne
    have hlt : r.length - 1 < r.length := by omega
    have key : ∀ j, ((r.set (r.length - 1) ((lastP r).1, (lastP r).2 + 1)).getD j zp).1 = (r.getD j zp).1 := by
      intro j
      by_cases e : r.length - 1 = j
      · subst e; rw [getD_set_self _ _ _ _ hlt]; rfl
      · rw [getD_set_ne _ _ _ _ _ e]
    refine ⟨?_, ?_, ?_, ?_⟩
    · intro j hj; rw [List.length_set] at hj; rw [key]; exact h.who j hj
    · intro j hj
      rw [List.length_set] at hj
      by_cases e : r.length - 1 = j
      · subst e; rw [getD_set_self _ _ _ _ hlt]
        have := h.many _ hlt
        show (1 : Int) ≤ (lastP r).2 + 1
        unfold lastP; omega
      · rw [getD_set_ne _ _ _ _ _ e]; exact h.many j hj
    · rw [List.map_set, tot_set _ _ _ (by simpa using hlt), h.sum]
      have : (r.map (·.2)).getD (r.length - 1) 0 = (lastP r).2 := by
        unfold lastP; rw [List.getD_eq_getElem?_getD, List.getElem?_map, List.getD_eq_getElem?_getD, List.getElem?_eq_getElem hlt]; rfl
      rw [this]; push_cast; omega
    · intro j hj; rw [List.length_set] at hj; rw [key, key]; exact h.apart j hj
  · rw [if_neg hg]
    refine ⟨?_, ?_, ?_, ?_⟩
    · intro j hj
      rw [List.length_append] at hj
      by_cases e : j < r.length
      · rw [getD_left _ _ _ e]; exact h.who j e
      · obtain rfl : j = r.length := by simp at hj; omega
        rw [getD_new]; exact ⟨h1, h8⟩
    · intro j hj
      rw [List.length_append] at hj
      by_cases e : j < r.length
      · rw [getD_left _ _ _ e]; exact h.many j e
      · obtain rfl : j = r.length := by simp at hj; omega
        rw [getD_new]; exact Int.le_refl _
    · rw [List.map_append, tot_append, h.sum]; simp [tot]
    · intro j hj
      rw [List.length_append] at hj
      by_cases e : j + 1 < r.length
      · rw [getD_left _ _ _ e, getD_left _ _ _ (by omega)]; exact h.apart j e
      · have e2 : r.length = j + 1 := by simp at hj; omega
        rw [getD_left _ _ _ (by omega), ← e2, getD_new]
        intro e3
        apply hg
        have : lastP r = r.getD j zp := by unfold lastP; rw [e2]; rfl
        simp only [goesOn, Bool.and_eq_true, decide_eq_true_eq]
        refine ⟨?_, by rw [this]; exact e3⟩
        rintro rfl; simp at e2
theorem who_ok {x : Leaf} (h : leafE x = 0) : 1 ≤ who x ∧ who x ≤ 8 := by
  have hc := (leafE_zero.1 h).1
  have : Pm.isWho (Pm.whoOf x.1.toList) = true := by
    unfold Pm.chk at hc
    repeat' split at hc
    all_goals first | (exact absurd hc (by decide)) | simp_all
  unfold Pm.isWho at this
  simpa [who] using this
theorem step_rn {r : List Pr} {n : Nat} {x : Leaf} (h : Rn r n) (hx : leafE x = 0) : Rn (stepR r x) (if isS x = true then n + 1 else n) := by
  unfold stepR
  by_cases e : isS x = true
  · rw [if_pos e, if_pos e]; exact h.add (who_ok hx).1 (who_ok hx).2
  · rw [if_neg e, if_neg e]; exact h
theorem runs_fold : ∀ (l : List Leaf) (r : List Pr) (n : Nat), Rn r n → (∀ x ∈ l, leafE x = 0) → Rn (l.foldl stepR r) (n + (text l).length)
  | [], r, n, h, _ => by simpa [text] using h
  | x :: l, r, n, h, hl => by
    rw [List.foldl_cons, text_cons]
    have := runs_fold l _ _ (step_rn h (hl x (by simp))) (fun y hy => hl y (by simp [hy]))
    split <;> rename_i e
    · rw [if_pos e] at this; rw [List.length_cons]; rw [show n + ((text l).length + 1) = n + 1 + (text l).length by omega]; exact this
    · rw [if_neg e] at this; exact this
theorem runs_ok {l : List Leaf} (hl : ∀ x ∈ l, leafE x = 0) : Rn (runs l) (text l).length := by
  have := runs_fold l [] 0 Rn.nil hl
  rwa [Nat.zero_add] at this
theorem runs_ok_take {l : List Leaf} (hl : ∀ x ∈ l, leafE x = 0) (k : Nat) : Rn (runs (l.take k)) (text (l.take k)).length :=
  runs_ok fun x hx => hl x (List.mem_of_mem_take hx)
theorem many_pos : ∀ (r : List Pr), (∀ j, j < r.length → 1 ≤ (r.getD j zp).2) → (∀ x ∈ r.map (·.2), 0 ≤ x) ∧ (r.length : Int) ≤ tot (r.map (·.2))
  | [], _ => ⟨by simp, by simp [tot]⟩
  | y :: r, h => by
    have h0 := h 0 (by simp)
    have h1 := many_pos r (fun j hj => by have := h (j + 1) (by simpa using hj); simpa using this)
    simp at h0
    refine ⟨?_, ?_⟩
    · intro x hx
      rw [List.map_cons, List.mem_cons] at hx
      rcases hx with rfl | hx
      · omega
      · exact h1.1 x hx
    · rw [List.map_cons, tot, List.length_cons]; have := h1.2; push_cast; omega
theorem Rn.len {r : List Pr} {n : Nat} (h : Rn r n) : r.length ≤ n := by
  have := (many_pos r h.many).2; rw [h.sum] at this; omega
theorem Rn.le {r : List Pr} {n : Nat} (h : Rn r n) (j : Nat) : (r.getD j zp).2 ≤ n := by
  have := tot_le _ (many_pos r h.many).1 j
  rw [h.sum] at this
  by_cases hj : j < r.length
  · rw [List.getD_eq_getElem?_getD, List.getElem?_map, List.getElem?_eq_getElem hj] at this
    rw [List.getD_eq_getElem?_getD, List.getElem?_eq_getElem hj]; exact this
  · rw [List.getD_eq_getElem?_getD, List.getElem?_eq_none (by omega)]
    show (0 : Int) ≤ n; omega
/- what authors wrote -/
structure Wn (v : List Int) (n : Int) : Prop where
  len : v.length = 8
  pos : ∀ x ∈ v, 0 ≤ x
  sum : tot v = n
theorem Wn.start : Wn [0, 0, 0, 0, 0, 0, 0, 0] 0 := ⟨rfl, by simp, rfl⟩
theorem getD_nn {v : List Int} (h : ∀ x ∈ v, 0 ≤ x) (i : Nat) : 0 ≤ v.getD i 0 := by
  by_cases hi : i < v.length
  · rw [List.getD_eq_getElem?_getD, List.getElem?_eq_getElem hi]; exact h _ (List.getElem_mem hi)
  · rw [List.getD_eq_getElem?_getD, List.getElem?_eq_none (by omega)]; exact Int.le_refl _
theorem Wn.add {v : List Int} {n : Int} (h : Wn v n) {y : Pr} (h1 : 1 ≤ y.1) (h8 : y.1 ≤ 8) (hm : 1 ≤ y.2) : Wn (addW v y) (n + y.2) := by
  have hlt : at8 y < v.length := by rw [h.len]; unfold at8; omega
  refine ⟨by unfold addW; rw [List.length_set]; exact h.len, ?_, ?_⟩
  · intro x hx
    unfold addW at hx
    rcases List.mem_or_eq_of_mem_set hx with hx | rfl
    · exact h.pos x hx
    · have := getD_nn h.pos (at8 y); omega
  · unfold addW; rw [tot_set _ _ _ hlt, h.sum]; omega
theorem wrt_fold : ∀ (r : List Pr) (v : List Int) (n : Int), Wn v n → (∀ j, j < r.length → 1 ≤ (r.getD j zp).1 ∧ (r.getD j zp).1 ≤ 8) → (∀ j, j < r.length → 1 ≤ (r.getD j zp).2) → Wn (r.foldl addW v) (n + tot (r.map (·.2)))
  | [], v, n, h, _, _ => by simpa [tot] using h
  | y :: r, v, n, h, hw, hm => by
    rw [List.foldl_cons, List.map_cons, tot]
    have h0 := hw 0 (by simp)
    have h1 := hm 0 (by simp)
    simp at h0 h1
    have := wrt_fold r _ _ (h.add h0.1 h0.2 h1) (fun j hj => by have := hw (j + 1) (by simpa using hj); simpa using this) (fun j hj => by have := hm (j + 1) (by simpa using hj); simpa using this)
    rw [show n + (y.2 + tot (r.map (·.2))) = n + y.2 + tot (r.map (·.2)) by omega]; exact this
theorem Rn.wrt {r : List Pr} {n : Nat} (h : Rn r n) : Wn (wrt r) n := by
  have := wrt_fold r _ _ Wn.start h.who h.many
  rw [h.sum, Int.zero_add] at this; exact this
theorem getD_take {α : Type} (l : List α) (z : α) {j k : Nat} (h : j < k) : (l.take k).getD j z = l.getD j z := by
  rw [List.getD_eq_getElem?_getD, List.getD_eq_getElem?_getD, List.getElem?_take_of_lt h]
theorem tot_take {l : List Int} {k : Nat} (hk : k < l.length) : tot (l.take (k + 1)) = tot (l.take k) + l.getD k 0 := by
  rw [snoc l 0 hk, tot_append]; simp [tot]
theorem tot_nn : ∀ (l : List Int), (∀ x ∈ l, 0 ≤ x) → 0 ≤ tot l
  | [], _ => by simp [tot]
  | y :: l, h => by have := tot_nn l (fun x hx => h x (by simp [hx])); have := h y (by simp); rw [tot]; omega
theorem tot_take_le {l : List Int} (h : ∀ x ∈ l, 0 ≤ x) (k : Nat) : 0 ≤ tot (l.take k) ∧ tot (l.take k) ≤ tot l := by
  refine ⟨tot_nn _ fun x hx => h x (List.mem_of_mem_take hx), ?_⟩
  have e := tot_append (l.take k) (l.drop k)
  rw [List.take_append_drop] at e
  have := tot_nn (l.drop k) fun x hx => h x (List.mem_of_mem_drop hx)
  omega
theorem Rn.wrt_take {r : List Pr} {n : Nat} (h : Rn r n) (k : Nat) : ∃ m : Int, Wn (Sq1.wrt (r.take k)) m ∧ 0 ≤ m ∧ m ≤ n := by
  have hw : ∀ j, j < (r.take k).length → j < r.length ∧ (r.take k).getD j zp = r.getD j zp := fun j hj => by
    rw [List.length_take] at hj; exact ⟨by omega, getD_take _ _ (by omega)⟩
  have := wrt_fold (r.take k) _ _ Wn.start (fun j hj => by rw [(hw j hj).2]; exact h.who j (hw j hj).1) (fun j hj => by rw [(hw j hj).2]; exact h.many j (hw j hj).1)
  rw [Int.zero_add, List.map_take] at this
  have h2 := tot_take_le (many_pos r h.many).1 k
  rw [h.sum] at h2
  exact ⟨_, this, h2.1, h2.2⟩
theorem Wn.le {v : List Int} {n : Int} (h : Wn v n) (i : Nat) : 0 ≤ v.getD i 0 ∧ v.getD i 0 ≤ n := by
  refine ⟨getD_nn h.pos i, ?_⟩
  have := tot_le v h.pos i; rwa [h.sum] at this
/- all leafs are seen or struck -/
theorem seen_struck : ∀ (l : List Leaf), (∀ x ∈ l, leafE x = 0) → struck l + (text l).length = l.length
  | [], _ => rfl
  | x :: l, h => by
    have := seen_struck l (fun y hy => h y (by simp [hy]))
    have hx := (leafE_zero.1 (h x (by simp))).2.2
    unfold struck at this ⊢
    rw [text_cons, List.filter_cons, List.length_cons]
    cases e : x.2.2 with
    | true =>
      have : isS x = false := by unfold isS; rw [e]; simp
      rw [if_pos rfl, if_neg (by rw [this]; simp), List.length_cons]; omega
    | false =>
      rw [e] at hx
      have : isS x = true := by unfold isS; rw [e]; simpa using hx
      rw [if_neg (by simp), if_pos this, List.length_cons]; omega
/- a book that one author wrote -/
theorem one_fold : ∀ (l : List Leaf) (a : Int) (m : Nat), (∀ x ∈ l, isS x = true ∧ who x = a) → l.foldl stepR [(a, (m : Int) + 1)] = [(a, (m : Int) + 1 + l.length)]
  | [], a, m, _ => by simp
  | x :: l, a, m, h => by
    obtain ⟨h1, h2⟩ := h x (by simp)
    have e : stepR [(a, (m : Int) + 1)] x = [(a, ((m + 1 : Nat) : Int) + 1)] := by
      unfold stepR
      rw [if_pos h1, h2]
      unfold addR
      rw [if_pos (by simp [goesOn, lastP])]
      simp [lastP]
    rw [List.foldl_cons, e, one_fold l a (m + 1) (fun y hy => h y (by simp [hy]))]
    rw [List.length_cons]; push_cast; congr 2; omega
theorem one_runs {l : List Leaf} {a : Int} (h : ∀ x ∈ l, isS x = true ∧ who x = a) (hl : l ≠ []) : runs l = [(a, (l.length : Int))] := by
  cases l with
  | nil => exact absurd rfl hl
  | cons x l =>
    obtain ⟨h1, h2⟩ := h x (by simp)
    have e : stepR [] x = [(a, ((0 : Nat) : Int) + 1)] := by
      unfold stepR; rw [if_pos h1, h2]; unfold addR; rw [if_neg (by simp [goesOn])]; simp
    unfold runs
    rw [List.foldl_cons, e, one_fold l a 0 (fun y hy => h y (by simp [hy]))]
    rw [List.length_cons]; push_cast; congr 2; omega
theorem longest_le {l : List Leaf} (h : ∀ x ∈ l, leafE x = 0) : longest l ≤ 12 := by
  have : ∀ (l : List Leaf) (m : Nat), m ≤ 12 → (∀ x ∈ l, leafE x = 0) → l.foldl longer m ≤ 12 := by
    intro l
    induction l with
    | nil => intro m hm _; exact hm
    | cons x l ih =>
      intro m hm hl
      rw [List.foldl_cons]
      refine ih _ ?_ (fun y hy => hl y (by simp [hy]))
      have h2 := (chk_pos (leafE_zero.1 (hl x (by simp))).1).2
      have h3 : x.1.toList.length = x.1.size := by rw [ByteArray.toList_eq]; rfl
      unfold longer; omega
  exact this l 0 (by omega) h

end Sq1
end Go.Proofs.Ytiiiineipajhmaa
