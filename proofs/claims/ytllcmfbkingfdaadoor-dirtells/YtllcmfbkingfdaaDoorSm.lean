/- Stretches of a book, cut at the places of marks: plain mathematics. No program is named here. -/
import Derived.Test.YtllcmfbkingfdaaDoorJ1
namespace Go.Proofs.YtllcmfbkingfdaaDoor
namespace Sm
set_option linter.unusedVariables false
open Op (bytesLess)
open Bm (Leaf text ahd none0 isS letter nth cut_at ahead_le less_trans less_irrefl less_asymm less_total text_append text_cons split_at)
open Cm (Mk mlt placesL marksE marksE_zero markE)

/- how much is seen ahead of a place -/
def cutF (l : List Leaf) (p : ByteArray) : Nat := (text (l.take (ahd l p.toList))).length
theorem take_len_mono (l : List Leaf) {i j : Nat} (h : i ≤ j) : (text (l.take i)).length ≤ (text (l.take j)).length := by
  have e : l.take j = l.take i ++ (l.take j).drop i := by
    conv => lhs; rw [← List.take_append_drop i (l.take j)]
    rw [List.take_take, Nat.min_eq_left h]
  rw [e, text_append, List.length_append]; omega
theorem take_len_le (l : List Leaf) (i : Nat) : (text (l.take i)).length ≤ (text l).length := by
  have e : text l = text (l.take i) ++ text (l.drop i) := by rw [← text_append, List.take_append_drop]
  rw [e, List.length_append]; omega
theorem ahd_mono {l : List Leaf} (hr : Bm.Rise l) {p q : List UInt8} (h : bytesLess p q = true) : ahd l p ≤ ahd l q := by
  obtain ⟨a1, a2, a3⟩ := cut_at p hr
  obtain ⟨b1, b2, b3⟩ := cut_at q hr
  rcases Nat.lt_or_ge (ahd l q) (ahd l p) with h9 | h9
  · have h1 := a1 _ h9
    have h2 := b2 _ (Nat.le_refl _) (by omega)
    rw [less_trans h1 h] at h2; cases h2
  · exact h9
theorem cutF_mono {l : List Leaf} (hr : Bm.Rise l) {p q : ByteArray} (h : bytesLess p.toList q.toList = true) : cutF l p ≤ cutF l q := take_len_mono l (ahd_mono hr h)
theorem cutF_le (l : List Leaf) (p : ByteArray) : cutF l p ≤ (text l).length := take_len_le l _
theorem less_nil (a : List UInt8) : bytesLess a [] = false := by cases a <;> rfl
theorem empty_list : (ByteArray.empty).toList = [] := ByteArray.toList_mk []
theorem ahd_nil (l : List Leaf) : ahd l [] = 0 := by
  cases l with
  | nil => rfl
  | cons x l => simp [ahd, less_nil]
theorem cutF_nil (l : List Leaf) : cutF l ByteArray.empty = 0 := by
  unfold cutF; rw [empty_list, ahd_nil]; rfl

/- the places at which stretches begin -/
def heads (m : List Mk) : List ByteArray := ByteArray.empty :: placesL m
theorem mem_places : ∀ {l : List Mk} {p : ByteArray}, p ∈ placesL l → ∃ x ∈ l, x.1 = p
  | [], p, h => by cases h
  | [m], p, h => by simp [placesL] at h; exact ⟨m, by simp, h.symm⟩
  | m :: x :: l, p, h => by
    rw [placesL] at h
    split at h
    · obtain ⟨y, hy, e⟩ := mem_places h
      exact ⟨y, List.mem_cons_of_mem _ hy, e⟩
    · rcases List.mem_cons.1 h with rfl | h
      · exact ⟨m, by simp, rfl⟩
      · obtain ⟨y, hy, e⟩ := mem_places h
        exact ⟨y, List.mem_cons_of_mem _ hy, e⟩
theorem places_rise : ∀ {l : List Mk}, Cm.Rise mlt l → (placesL l).Pairwise fun a b => bytesLess a.toList b.toList = true
  | [], h => List.Pairwise.nil
  | [m], h => by simp [placesL]
  | m :: x :: l, h => by
    have hc := List.pairwise_cons.1 h
    rw [placesL]
    split
    · exact places_rise hc.2
    · next hne =>
      refine List.pairwise_cons.2 ⟨fun p hp => ?_, places_rise hc.2⟩
      have hmx : bytesLess m.1.toList x.1.toList = true := by
        have h9 := hc.1 x (by simp)
        unfold mlt at h9
        rw [Bool.or_eq_true] at h9
        rcases h9 with h9 | h9
        · exact h9
        · rw [Bool.and_eq_true, decide_eq_true_eq] at h9
          exact absurd (congrArg ByteArray.toList h9.1) hne
      obtain ⟨y, hy, rfl⟩ := mem_places hp
      rcases List.mem_cons.1 hy with rfl | hy
      · exact hmx
      · have h9 := (List.pairwise_cons.1 hc.2).1 y hy
        unfold mlt at h9
        rw [Bool.or_eq_true] at h9
        rcases h9 with h9 | h9
        · exact less_trans hmx h9
        · rw [Bool.and_eq_true, decide_eq_true_eq] at h9
          rw [← h9.1]; exact hmx
theorem heads_rise {m : List Mk} (h : marksE m = 0) : (heads m).Pairwise fun a b => bytesLess a.toList b.toList = true := by
  obtain ⟨_, h2, h3⟩ := marksE_zero.1 h
  refine List.pairwise_cons.2 ⟨fun p hp => ?_, places_rise h3⟩
  obtain ⟨x, hx, rfl⟩ := mem_places hp
  have h9 := h2 x hx
  have hc : Pm.chk x.1.toList = 0 := by
    unfold markE at h9
    split at h9
    · next h1 => exact absurd h9 h1
    · next h1 => simpa using h1
  have := (Bm.chk_pos hc).1
  rw [empty_list]
  cases e : x.1.toList with
  | nil => rw [e] at this; simp at this
  | cons _ _ => rfl
theorem heads_pos (m : List Mk) : 0 < (heads m).length := by simp [heads]
theorem heads_lt {m : List Mk} (h : marksE m = 0) {i j : Nat} (hij : i < j) (hj : j < (heads m).length) : bytesLess ((heads m).getD i ByteArray.empty).toList ((heads m).getD j ByteArray.empty).toList = true := by
  rw [List.getD_eq_getElem?_getD, List.getElem?_eq_getElem (by omega), List.getD_eq_getElem?_getD, List.getElem?_eq_getElem hj]
  exact List.pairwise_iff_getElem.1 (heads_rise h) i j (by omega) hj hij

/- where the k-th begins; the one behind the last one begins at the end -/
def beg (l : List Leaf) (H : List ByteArray) (k : Nat) : Nat := if k < H.length then cutF l (H.getD k ByteArray.empty) else (text l).length
theorem beg_zero (l : List Leaf) (m : List Mk) : beg l (heads m) 0 = 0 := by
  unfold beg; rw [if_pos (heads_pos m)]; exact cutF_nil l
theorem beg_end (l : List Leaf) (H : List ByteArray) {k : Nat} (h : H.length ≤ k) : beg l H k = (text l).length := by unfold beg; rw [if_neg (by omega)]
theorem beg_le (l : List Leaf) (H : List ByteArray) (k : Nat) : beg l H k ≤ (text l).length := by
  unfold beg; split
  · exact cutF_le l _
  · exact Nat.le_refl _
theorem beg_mono {l : List Leaf} {m : List Mk} (hr : Bm.Rise l) (hm : marksE m = 0) {i j : Nat} (hij : i ≤ j) : beg l (heads m) i ≤ beg l (heads m) j := by
  by_cases hj : j < (heads m).length
  · unfold beg
    rw [if_pos hj, if_pos (by omega)]
    rcases Nat.lt_or_eq_of_le hij with h | rfl
    · exact cutF_mono hr (heads_lt hm h hj)
    · exact Nat.le_refl _
  · rw [beg_end l (heads m) (show (heads m).length ≤ j by omega)]; exact beg_le l _ i
abbrev St := ByteArray × Int × Int
def stOf (l : List Leaf) (H : List ByteArray) (k : Nat) : St := (H.getD k ByteArray.empty, (beg l H k : Int), (beg l H (k + 1) : Int) - beg l H k)
def stretches (l : List Leaf) (m : List Mk) : List St := (List.range (heads m).length).map (stOf l (heads m))
theorem stretches_len (l : List Leaf) (m : List Mk) : (stretches l m).length = (heads m).length := by simp [stretches]
theorem stretches_at {l : List Leaf} {m : List Mk} {k : Nat} (hk : k < (heads m).length) : (stretches l m)[k]? = some (stOf l (heads m) k) := by
  simp [stretches, hk]

/- what is seen of the k-th -/
def sliceB (l : List Leaf) (H : List ByteArray) (k : Nat) : List UInt8 := ((text l).drop (beg l H k)).take (beg l H (k + 1) - beg l H k)
theorem slice_len {l : List Leaf} {m : List Mk} (hr : Bm.Rise l) (hm : marksE m = 0) (k : Nat) : (sliceB l (heads m) k).length = beg l (heads m) (k + 1) - beg l (heads m) k := by
  have := beg_le l (heads m) (k + 1)
  have := beg_mono hr hm (Nat.le_succ k)
  unfold sliceB
  rw [List.length_take, List.length_drop]; omega
theorem slice_next {l : List Leaf} {m : List Mk} (hr : Bm.Rise l) (hm : marksE m = 0) (k : Nat) : (text l).take (beg l (heads m) k) ++ sliceB l (heads m) k = (text l).take (beg l (heads m) (k + 1)) := by
  have h1 := beg_mono hr hm (Nat.le_succ k)
  obtain ⟨d, hd⟩ : ∃ d, beg l (heads m) (k + 1) = beg l (heads m) k + d := ⟨_, (Nat.add_sub_cancel' h1).symm⟩
  unfold sliceB
  rw [hd, Nat.add_sub_cancel_left, List.take_add]
theorem slice_all (l : List Leaf) (m : List Mk) {k : Nat} (h : (heads m).length ≤ k) : (text l).take (beg l (heads m) k) = text l := by
  rw [beg_end l _ h]; exact List.take_length ..

/- in which one an offset is -/
theorem loc_uniq {l : List Leaf} {m : List Mk} (hr : Bm.Rise l) (hm : marksE m = 0) {o i j : Nat} (h1 : beg l (heads m) i ≤ o) (h2 : o < beg l (heads m) (i + 1)) (h3 : beg l (heads m) j ≤ o) (h4 : o < beg l (heads m) (j + 1)) : i = j := by
  rcases Nat.lt_trichotomy i j with h | h | h
  · have := beg_mono hr hm (show i + 1 ≤ j from h); omega
  · exact h
  · have := beg_mono hr hm (show j + 1 ≤ i from h); omega
theorem loc_some (l : List Leaf) (m : List Mk) {o : Nat} (ho : o < (text l).length) : ∃ k, k < (heads m).length ∧ beg l (heads m) k ≤ o ∧ o < beg l (heads m) (k + 1) := by
  have key : ∀ n, (∀ k, k ≤ n → beg l (heads m) k ≤ o) ∨ ∃ k, k < n ∧ beg l (heads m) k ≤ o ∧ o < beg l (heads m) (k + 1) := by
    intro n
    induction n with
    | zero => exact Or.inl fun k hk => by rw [Nat.le_zero.1 hk, beg_zero]; exact Nat.zero_le _
    | succ n ih =>
      rcases ih with ih | ⟨k, h1, h2⟩
      · by_cases h : beg l (heads m) (n + 1) ≤ o
        · exact Or.inl fun k hk => by
            rcases Nat.lt_or_eq_of_le hk with h9 | rfl
            · exact ih k (by omega)
            · exact h
        · exact Or.inr ⟨n, Nat.lt_succ_self n, ih n (Nat.le_refl _), by omega⟩
      · exact Or.inr ⟨k, by omega, h2⟩
  rcases key (heads m).length with h | h
  · have := h _ (Nat.le_refl _); rw [beg_end l _ (Nat.le_refl _)] at this; omega
  · exact h
theorem loc_lt {l : List Leaf} {m : List Mk} {o k : Nat} (h1 : beg l (heads m) k ≤ o) (h2 : o < beg l (heads m) (k + 1)) : k < (heads m).length ∧ o < (text l).length := by
  have := beg_le l (heads m) (k + 1)
  refine ⟨?_, by omega⟩
  rcases Nat.lt_or_ge k (heads m).length with h | h
  · exact h
  · rw [beg_end l _ h] at h1; omega

/- in which one a place is: the last one that begins at it or ahead of it -/
def IsOf (H : List ByteArray) (p : ByteArray) (k : Nat) : Prop := k < H.length ∧ bytesLess p.toList (H.getD k ByteArray.empty).toList = false ∧ ∀ j, k < j → j < H.length → bytesLess p.toList (H.getD j ByteArray.empty).toList = true
theorem of_uniq {H : List ByteArray} {p : ByteArray} {i j : Nat} (h1 : IsOf H p i) (h2 : IsOf H p j) : i = j := by
  obtain ⟨a1, a2, a3⟩ := h1
  obtain ⟨b1, b2, b3⟩ := h2
  rcases Nat.lt_trichotomy i j with h | h | h
  · rw [a3 j h b1] at b2; cases b2
  · exact h
  · rw [b3 i h a1] at a2; cases a2
theorem of_some (m : List Mk) (p : ByteArray) : ∃ k, IsOf (heads m) p k := by
  have key : ∀ n, n < (heads m).length → ∃ k, k ≤ n ∧ bytesLess p.toList ((heads m).getD k ByteArray.empty).toList = false ∧ ∀ j, k < j → j ≤ n → bytesLess p.toList ((heads m).getD j ByteArray.empty).toList = true := by
    intro n
    induction n with
    | zero => exact fun _ => ⟨0, Nat.le_refl _, by show bytesLess p.toList (ByteArray.empty).toList = false; rw [empty_list]; exact less_nil _, fun j h1 h2 => by omega⟩
    | succ n ih =>
      intro hn
      obtain ⟨k, k1, k2, k3⟩ := ih (by omega)
      cases h : bytesLess p.toList ((heads m).getD (n + 1) ByteArray.empty).toList
      · exact ⟨n + 1, Nat.le_refl _, h, fun j h1 h2 => by omega⟩
      · refine ⟨k, by omega, k2, fun j h1 h2 => ?_⟩
        rcases Nat.lt_or_eq_of_le h2 with h9 | rfl
        · exact k3 j h1 (by omega)
        · exact h
  obtain ⟨k, k1, k2, k3⟩ := key ((heads m).length - 1) (by have := heads_pos m; omega)
  exact ⟨k, by have := heads_pos m; omega, k2, fun j h1 h2 => k3 j h1 (by omega)⟩
/- a letter is in the stretch in which its place is -/
theorem of_leaf {l : List Leaf} {m : List Mk} (hr : Bm.Rise l) (hm : marksE m = 0) {n k : Nat} (hn : n < l.length) (hs : isS (l.getD n none0) = true) (h1 : beg l (heads m) k ≤ (text (l.take n)).length) (h2 : (text (l.take n)).length < beg l (heads m) (k + 1)) : IsOf (heads m) (l.getD n none0).1 k := by
  have hkl := (loc_lt h1 h2).1
  have hsuc : (text (l.take (n + 1))).length = (text (l.take n)).length + 1 := by
    rw [List.take_add_one, List.getElem?_eq_getElem hn, text_append]
    have e : l[n] = l.getD n none0 := by rw [List.getD_eq_getElem?_getD, List.getElem?_eq_getElem hn]; rfl
    simp only [Option.toList, e, text_cons, hs, if_true, List.length_append, List.length_cons]
    rfl
  have iff1 : ∀ j, j < (heads m).length → (bytesLess (l.getD n none0).1.toList ((heads m).getD j ByteArray.empty).toList = false ↔ beg l (heads m) j ≤ (text (l.take n)).length) := by
    intro j hj
    obtain ⟨a1, a2, a3⟩ := cut_at ((heads m).getD j ByteArray.empty).toList hr
    have e : beg l (heads m) j = (text (l.take (ahd l ((heads m).getD j ByteArray.empty).toList))).length := by unfold beg; rw [if_pos hj]; rfl
    rw [e]
    constructor
    · intro h
      rcases Nat.lt_or_ge n (ahd l ((heads m).getD j ByteArray.empty).toList) with h9 | h9
      · rw [a1 n h9] at h; cases h
      · exact take_len_mono l h9
    · intro h
      rcases Nat.lt_or_ge n (ahd l ((heads m).getD j ByteArray.empty).toList) with h9 | h9
      · have := take_len_mono l (show n + 1 ≤ _ from h9); omega
      · exact a2 n h9 hn
  refine ⟨hkl, (iff1 k hkl).2 h1, fun j hj1 hj2 => ?_⟩
  cases h : bytesLess (l.getD n none0).1.toList ((heads m).getD j ByteArray.empty).toList
  · have h3 := (iff1 j hj2).1 h
    have h4 := beg_mono hr hm (show k + 1 ≤ j from hj1)
    omega
  · rfl

/- the reference goes through the marks one by one -/
theorem places_snoc : ∀ (l : List Mk) (x y : Mk), placesL (l ++ [x] ++ [y]) = if x.1.toList = y.1.toList then placesL (l ++ [x]) else placesL (l ++ [x]) ++ [y.1]
  | [], x, y => by
    show placesL [x, y] = if x.1.toList = y.1.toList then placesL [x] else placesL [x] ++ [y.1]
    rw [placesL, placesL, placesL]
    by_cases h : x.1.toList = y.1.toList
    · rw [if_pos h, if_pos h, Bm.bytes_inj h]
    · rw [if_neg h, if_neg h]; rfl
  | a :: l, x, y => by
    have ih := places_snoc l x y
    obtain ⟨c, r, hcr⟩ : ∃ c r, l ++ [x] = c :: r := by cases l <;> simp
    show placesL (a :: (l ++ [x] ++ [y])) = if x.1.toList = y.1.toList then placesL (a :: (l ++ [x])) else placesL (a :: (l ++ [x])) ++ [y.1]
    rw [hcr] at ih ⊢
    simp only [List.cons_append] at ih ⊢
    rw [placesL, placesL, ih]
    by_cases h1 : a.1.toList = c.1.toList
    · rw [if_pos h1, if_pos h1]
    · rw [if_neg h1, if_neg h1]
      by_cases h2 : x.1.toList = y.1.toList
      · rw [if_pos h2, if_pos h2]
      · rw [if_neg h2, if_neg h2]; rfl
theorem heads_one (m : List Mk) {y : Mk} (h : m[0]? = some y) : heads (m.take 1) = [ByteArray.empty, y.1] := by
  cases m with
  | nil => cases h
  | cons x m => simp at h; subst h; rfl
theorem heads_next {m : List Mk} {i : Nat} {x y : Mk} (hx : m[i]? = some x) (hy : m[i + 1]? = some y) : heads (m.take (i + 1 + 1)) = if x.1.toList = y.1.toList then heads (m.take (i + 1)) else heads (m.take (i + 1)) ++ [y.1] := by
  have e1 : m.take (i + 1) = m.take i ++ [x] := by rw [List.take_add_one, hx]; rfl
  have e2 : m.take (i + 1 + 1) = m.take i ++ [x] ++ [y] := by rw [List.take_add_one, hy, e1]; rfl
  unfold heads
  rw [e2, e1, places_snoc]
  split <;> rfl

end Sm
end Go.Proofs.YtllcmfbkingfdaaDoor
