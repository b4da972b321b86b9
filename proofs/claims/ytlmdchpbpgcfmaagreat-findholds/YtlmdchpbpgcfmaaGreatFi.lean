/- The plain mathematics of finding: where a part stands, words, lines. No program is named here. -/
import Derived.Test.YtlmdchpbpgcfmaaGreatJ1
namespace Go.Proofs.YtlmdchpbpgcfmaaGreat
namespace Fi
set_option linter.unusedVariables false

/- does a part stand at an offset? -/
def isAt (t p : List UInt8) (i : Nat) : Bool := (t.drop i).take p.length == p
theorem isAt_le {t p : List UInt8} {i : Nat} (hp : p ≠ []) (h : isAt t p i = true) : i + p.length ≤ t.length := by
  unfold isAt at h
  rw [beq_iff_eq] at h
  have := congrArg List.length h
  rw [List.length_take, List.length_drop] at this
  have := List.length_pos_iff.2 hp
  omega
def allF (t p : List UInt8) : Nat → Nat → List Nat
  | 0, _ => []
  | f + 1, i => if i + p.length ≤ t.length then (if isAt t p i then i :: allF t p f (i + p.length) else allF t p f (i + 1)) else []
def all (t p : List UInt8) : List Nat := allF t p (t.length + 1) 0
theorem allF_end {t p : List UInt8} {i : Nat} (h : ¬ i + p.length ≤ t.length) : ∀ f, allF t p f i = []
  | 0 => rfl
  | f + 1 => by rw [allF, if_neg h]
/- it does not matter how far one may go, if it is far enough -/
theorem allF_more {t p : List UInt8} (hp : p ≠ []) : ∀ (f g i : Nat), t.length < f + i → t.length < g + i → allF t p f i = allF t p g i
  | 0, g, i, h1, h2 => by
    have := List.length_pos_iff.2 hp
    rw [allF_end (by omega), allF_end (by omega)]
  | f + 1, 0, i, h1, h2 => by
    have := List.length_pos_iff.2 hp
    rw [allF_end (by omega), allF_end (by omega)]
  | f + 1, g + 1, i, h1, h2 => by
    have := List.length_pos_iff.2 hp
    rw [allF, allF]
    by_cases h : i + p.length ≤ t.length
    · rw [if_pos h, if_pos h]
      cases isAt t p i with
      | true => rw [if_pos rfl, if_pos rfl, allF_more hp f g (i + p.length) (by omega) (by omega)]
      | false => rw [if_neg (by simp), if_neg (by simp), allF_more hp f g (i + 1) (by omega) (by omega)]
    · rw [if_neg h, if_neg h]
theorem all_yes {t p : List UInt8} (hp : p ≠ []) {i : Nat} (h : isAt t p i = true) : allF t p (t.length + 1) i = i :: allF t p (t.length + 1) (i + p.length) := by
  have hl := isAt_le hp h
  have := List.length_pos_iff.2 hp
  rw [allF, if_pos hl, if_pos h, allF_more hp t.length (t.length + 1) (i + p.length) (by omega) (by omega)]
theorem all_no {t p : List UInt8} (hp : p ≠ []) {i : Nat} (h : isAt t p i = false) : allF t p (t.length + 1) i = allF t p (t.length + 1) (i + 1) := by
  have := List.length_pos_iff.2 hp
  by_cases hl : i + p.length ≤ t.length
  · rw [allF, if_pos hl, if_neg (by rw [h]; simp), allF_more hp t.length (t.length + 1) (i + 1) (by omega) (by omega)]
  · rw [allF_end hl, allF_end (by omega)]
/- each found is there, and none between -/
theorem found {t p : List UInt8} (hp : p ≠ []) : ∀ (f i : Nat), ∀ x ∈ allF t p f i, i ≤ x ∧ isAt t p x = true
  | 0, i, x, hx => by cases hx
  | f + 1, i, x, hx => by
    rw [allF] at hx
    split at hx
    · cases h : isAt t p i with
      | true =>
        rw [h, if_pos rfl] at hx
        rcases List.mem_cons.1 hx with rfl | hx
        · exact ⟨Nat.le_refl _, h⟩
        · have := found hp f (i + p.length) x hx
          exact ⟨by omega, this.2⟩
      | false =>
        rw [h, if_neg (by simp)] at hx
        have := found hp f (i + 1) x hx
        exact ⟨by omega, this.2⟩
    · cases hx
theorem head {t p : List UInt8} (hp : p ≠ []) : ∀ (f i x : Nat) (r : List Nat), t.length < f + i → allF t p f i = x :: r → i ≤ x ∧ isAt t p x = true ∧ (∀ k, i ≤ k → k < x → isAt t p k = false) ∧ r = allF t p (t.length + 1) (x + p.length)
  | 0, i, x, r, _, h => by cases h
  | f + 1, i, x, r, hf, h => by
    have hpos := List.length_pos_iff.2 hp
    rw [allF] at h
    split at h
    · rename_i hl
      cases ha : isAt t p i with
      | true =>
        rw [ha, if_pos rfl] at h
        injection h with h1 h2
        subst h1
        exact ⟨Nat.le_refl _, ha, fun k k1 k2 => by omega, by rw [← h2]; exact allF_more hp _ _ _ (by omega) (by omega)⟩
      | false =>
        rw [ha, if_neg (by simp)] at h
        obtain ⟨q1, q2, q3, q4⟩ := head hp f (i + 1) x r (by omega) h
        refine ⟨by omega, q2, fun k k1 k2 => ?_, q4⟩
        rcases Nat.lt_or_eq_of_le k1 with e | e
        · exact q3 k (by omega) k2
        · rw [← e]; exact ha
    · cases h
/- one behind the other, so many of them take so much room -/
theorem room {t p : List UInt8} (hp : p ≠ []) : ∀ (f i : Nat), i ≤ t.length → i + (allF t p f i).length * p.length ≤ t.length
  | 0, i, h => by simp [allF]; exact h
  | f + 1, i, h => by
    rw [allF]
    split
    · rename_i hl
      split
      · have := room (t := t) hp f (i + p.length) hl
        rw [List.length_cons, Nat.add_mul]; omega
      · have hpos := List.length_pos_iff.2 hp
        have := room (t := t) hp f (i + 1) (by omega)
        omega
    · simp; exact h
theorem all_short {t p : List UInt8} (h : t.length < p.length) : all t p = [] := allF_end (by omega) _
theorem all_self {t : List UInt8} (h : t ≠ []) : all t t = [0] := by
  have hpos := List.length_pos_iff.2 h
  unfold all
  rw [all_yes h (i := 0) (by unfold isAt; simp), allF_end (by omega)]

/- a text, cut at a letter -/
def cutC (c : UInt8) : List UInt8 → List (List UInt8)
  | [] => [[]]
  | x :: r => if x = c then [] :: cutC c r else ((x :: (cutC c r).headD []) :: (cutC c r).tail)
theorem cutC_ne (c : UInt8) : ∀ s : List UInt8, cutC c s ≠ []
  | [] => by simp [cutC]
  | x :: r => by unfold cutC; split <;> simp
theorem cutC_flat (c : UInt8) : ∀ s : List UInt8, (cutC c s).flatten = s.filter fun x => x != c
  | [] => rfl
  | x :: r => by
    have ih := cutC_flat c r
    unfold cutC
    by_cases h : x = c
    · rw [if_pos h, List.flatten_cons, List.nil_append, ih, List.filter_cons, if_neg (by simp [h])]
    · rw [if_neg h, List.filter_cons, if_pos (by simp [h]), ← ih]
      cases e : cutC c r with
      | nil => exact absurd e (cutC_ne c r)
      | cons a b => simp
theorem cutC_free (c : UInt8) : ∀ s : List UInt8, ∀ w ∈ cutC c s, c ∉ w
  | [], w, hw => by simp [cutC] at hw; rw [hw]; simp
  | x :: r, w, hw => by
    have ih := cutC_free c r
    unfold cutC at hw
    by_cases h : x = c
    · rw [if_pos h] at hw
      rcases List.mem_cons.1 hw with rfl | hw
      · simp
      · exact ih w hw
    · rw [if_neg h] at hw
      cases e : cutC c r with
      | nil => exact absurd e (cutC_ne c r)
      | cons a b =>
        rw [e] at hw ih
        simp only [List.headD_cons, List.tail_cons] at hw
        rcases List.mem_cons.1 hw with rfl | hw
        · intro hc
          rcases List.mem_cons.1 hc with q | q
          · exact h q.symm
          · exact ih a (List.mem_cons_self ..) q
        · exact ih w (List.mem_cons_of_mem _ hw)
theorem cutC_none {c : UInt8} : ∀ x : List UInt8, c ∉ x → cutC c x = [x]
  | [], _ => rfl
  | y :: r, h => by
    have h1 : y ≠ c := fun e => h (by simp [e])
    have h2 : c ∉ r := fun e => h (by simp [e])
    unfold cutC; rw [if_neg h1, cutC_none r h2]; rfl
theorem cutC_app {c : UInt8} : ∀ (x r : List UInt8), c ∉ x → cutC c (x ++ c :: r) = x :: cutC c r
  | [], r, _ => by simp [cutC]
  | y :: x, r, h => by
    have h1 : y ≠ c := fun e => h (by simp [e])
    have h2 : c ∉ x := fun e => h (by simp [e])
    rw [List.cons_append, cutC, if_neg h1, cutC_app x r h2]; rfl
def words (s : List UInt8) : List (List UInt8) := (cutC 32 s).filter fun w => !w.isEmpty
theorem flat_words : ∀ l : List (List UInt8), (l.filter fun w => !w.isEmpty).flatten = l.flatten
  | [] => rfl
  | w :: l => by
    rw [List.filter_cons]
    cases w with
    | nil => simp [flat_words l]
    | cons a b => simp [flat_words l]
theorem words_flat (s : List UInt8) : (words s).flatten = s.filter fun x => x != 32 := by unfold words; rw [flat_words, cutC_flat]
theorem words_ok {s w : List UInt8} (h : w ∈ words s) : w ≠ [] ∧ (32 : UInt8) ∉ w := by
  unfold words at h
  rw [List.mem_filter] at h
  refine ⟨fun e => ?_, cutC_free 32 s w h.1⟩
  rw [e] at h; simp at h
/- a word, cut into what goes into a line -/
def chop (n : Nat) : Nat → List UInt8 → List (List UInt8)
  | 0, s => [s]
  | f + 1, s => if n < s.length then s.take n :: chop n f (s.drop n) else [s]
theorem chop_flat (n : Nat) : ∀ (f : Nat) (s : List UInt8), (chop n f s).flatten = s
  | 0, s => by simp [chop]
  | f + 1, s => by
    unfold chop
    split
    · rw [List.flatten_cons, chop_flat n f, List.take_append_drop]
    · simp
theorem chop_ok {n : Nat} (hn : 1 ≤ n) : ∀ (f : Nat) (s : List UInt8), s.length ≤ f → s ≠ [] → ∀ w ∈ chop n f s, w ≠ [] ∧ w.length ≤ n
  | 0, s, hf, h0, w, hw => absurd (List.eq_nil_of_length_eq_zero (by omega)) h0
  | f + 1, s, hf, h0, w, hw => by
    unfold chop at hw
    split at hw
    · rename_i hl
      rcases List.mem_cons.1 hw with rfl | hw
      · refine ⟨fun e => ?_, by rw [List.length_take]; omega⟩
        have := congrArg List.length e
        rw [List.length_take, List.length_nil] at this
        omega
      · refine chop_ok hn f (s.drop n) (by rw [List.length_drop]; omega) (fun e => ?_) w hw
        have := congrArg List.length e
        rw [List.length_drop, List.length_nil] at this
        omega
    · rename_i hl
      rw [List.mem_singleton.1 hw]; exact ⟨h0, by omega⟩
/- one word more -/
def addW (n : Nat) (out : List (List UInt8)) (s : List UInt8) : List (List UInt8) :=
  if out ≠ [] ∧ (out.getLastD []).length + 1 + s.length ≤ n then out.dropLast ++ [out.getLastD [] ++ 32 :: s] else out ++ chop n s.length s
def lines (n : Nat) (t : List UInt8) : List (List UInt8) := (words t).foldl (addW n) []
theorem last_eq {out : List (List UInt8)} (h : out ≠ []) : out.dropLast ++ [out.getLastD []] = out := by
  have e : out.getLastD [] = out.getLast h := by
    cases out with
    | nil => exact absurd rfl h
    | cons a b => rw [List.getLastD_cons, List.getLast_eq_getLastD]
  rw [e]; exact List.dropLast_concat_getLast h
theorem addW_flat (n : Nat) (out : List (List UInt8)) (s : List UInt8) (hs : (32 : UInt8) ∉ s) : ((addW n out s).flatten.filter fun x => x != 32) = (out.flatten.filter fun x => x != 32) ++ s := by
  have hself : (s.filter fun x => x != 32) = s := by
    rw [List.filter_eq_self]
    intro x hx
    have : x ≠ 32 := fun e => hs (e ▸ hx)
    simpa using this
  unfold addW
  split
  · rename_i h
    conv => rhs; rw [← last_eq h.1]
    rw [List.flatten_append, List.flatten_append, List.filter_append, List.filter_append, List.append_assoc]
    congr 1
    simp only [List.flatten_cons, List.flatten_nil, List.append_nil, List.filter_append]
    rw [List.filter_cons, if_neg (by simp), hself]
  · rw [List.flatten_append, List.filter_append, chop_flat, hself]
theorem addW_ok {n : Nat} (hn : 1 ≤ n) {out : List (List UInt8)} {s : List UInt8} (h : ∀ w ∈ out, w ≠ [] ∧ w.length ≤ n) (hs : s ≠ []) : ∀ w ∈ addW n out s, w ≠ [] ∧ w.length ≤ n := by
  intro w hw
  unfold addW at hw
  split at hw
  · rename_i hl
    rcases List.mem_append.1 hw with hw | hw
    · exact h w ((List.dropLast_sublist out).subset hw)
    · rw [List.mem_singleton.1 hw]
      exact ⟨by simp, by rw [List.length_append, List.length_cons]; omega⟩
  · rcases List.mem_append.1 hw with hw | hw
    · exact h w hw
    · exact chop_ok hn s.length s (Nat.le_refl _) hs w hw
theorem fold_ok {n : Nat} (hn : 1 ≤ n) : ∀ (l out : List (List UInt8)), (∀ w ∈ l, w ≠ [] ∧ (32 : UInt8) ∉ w) → (∀ w ∈ out, w ≠ [] ∧ w.length ≤ n) →
    (∀ w ∈ l.foldl (addW n) out, w ≠ [] ∧ w.length ≤ n) ∧ ((l.foldl (addW n) out).flatten.filter fun x => x != 32) = (out.flatten.filter fun x => x != 32) ++ l.flatten
  | [], out, _, ho => ⟨ho, by simp⟩
  | s :: l, out, hl, ho => by
    have h1 := hl s (List.mem_cons_self ..)
    obtain ⟨i1, i2⟩ := fold_ok hn l (addW n out s) (fun w hw => hl w (List.mem_cons_of_mem _ hw)) (addW_ok hn ho h1.1)
    refine ⟨i1, ?_⟩
    rw [List.foldl_cons, i2, addW_flat n out s h1.2, List.flatten_cons, List.append_assoc]
/- lines are as wide as they may be, and have all words -/
theorem lines_ok {n : Nat} (hn : 1 ≤ n) (t : List UInt8) : (∀ w ∈ lines n t, w ≠ [] ∧ w.length ≤ n) ∧ ((lines n t).flatten.filter fun x => x != 32) = (words t).flatten := by
  obtain ⟨h1, h2⟩ := fold_ok hn (words t) [] (fun w hw => words_ok hw) (fun w hw => by cases hw)
  exact ⟨h1, by unfold lines; rw [h2]; rfl⟩
theorem lines_words {n : Nat} (hn : 1 ≤ n) (t : List UInt8) : ((lines n t).flatMap fun s => (cutC 32 s).flatten) = (words t).flatten := by
  rw [← (lines_ok hn t).2]
  generalize lines n t = l
  induction l with
  | nil => rfl
  | cons s l ih => rw [List.flatMap_cons, ih, cutC_flat, List.flatten_cons, List.filter_append]

end Fi
end Go.Proofs.YtlmdchpbpgcfmaaGreat
