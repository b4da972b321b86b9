/- Books that are written and struck: what stays right, what comes to the same, where it is isS. No program is named here. -/
import Derived.Test.YtaefoieoachdfaaBm
namespace Go.Proofs.Ytaefoieoachdfaa
namespace Bm
set_option linter.unusedVariables false
open Op (bytesLess)

theorem withE_zero {l : List Leaf} {p : ByteArray} : withE l p = 0 ↔ bookE l = 0 ∧ Pm.chk p.toList = 0 := by
  unfold withE
  by_cases h : bookE l = 0
  · rw [if_neg (by simpa using h)]; simp [h]
  · rw [if_pos h]; simp [h]
theorem putE_zero {l : List Leaf} {p : ByteArray} : putE l p = 0 ↔ has l p.toList = true ∨ l.length < 300 := by
  unfold putE
  cases h : has l p.toList
  · by_cases h2 : 300 ≤ l.length
    · rw [if_pos ⟨rfl, h2⟩]; simp; omega
    · rw [if_neg (fun h => h2 h.2)]; simp; omega
  · simp
theorem wrE_zero {l : List Leaf} {p : ByteArray} {c : Int} : wrE l p c = 0 ↔ isL c = true ∧ clash (leafAt l p) c = false ∧ putE l p = 0 := by
  unfold wrE
  cases h : isL c
  · simp
  · cases h2 : clash (leafAt l p) c <;> simp
theorem writeE_zero {l : List Leaf} {p : ByteArray} {c : Int} : writeE l p c = 0 ↔ withE l p = 0 ∧ wrE l p c = 0 := by
  unfold writeE
  by_cases h : withE l p = 0
  · rw [if_neg (by simpa using h)]; simp [h]
  · rw [if_pos h]; simp [h]
theorem strikeE_zero {l : List Leaf} {p : ByteArray} : strikeE l p = 0 ↔ withE l p = 0 ∧ putE l p = 0 := by
  unfold strikeE
  by_cases h : withE l p = 0
  · rw [if_neg (by simpa using h)]; simp [h]
  · rw [if_pos h]; simp [h]
theorem isL_ne {c : Int} (h : isL c = true) : c ≠ 0 ∧ 32 ≤ c ∧ c ≤ 126 := by
  unfold isL at h; rw [Bool.and_eq_true, decide_eq_true_eq, decide_eq_true_eq] at h; omega

theorem put_book {l : List Leaf} {p : ByteArray} {x : Leaf} (hb : bookE l = 0) (hx : x.1 = p) (hl : leafE x = 0) (hp : putE l p = 0) : bookE (putL l p x) = 0 := by
  obtain ⟨h1, h2, h3⟩ := bookE_zero.1 hb
  refine bookE_zero.2 ⟨?_, ?_, put_rise h3 hx⟩
  · rw [put_length h3]
    rcases putE_zero.1 hp with h | h
    · rw [h]; exact h1
    · split <;> omega
  · intro y hy
    rcases (put_mem h3 hx y).1 hy with rfl | ⟨h, _⟩
    · exact hl
    · exact h2 y h
theorem leafAt_ok {l : List Leaf} {p : ByteArray} (hb : bookE l = 0) : (leafAt l p).2.1 = 0 ∨ isL (leafAt l p).2.1 = true := by
  obtain ⟨h1, h2, h3⟩ := bookE_zero.1 hb
  cases h : has l p.toList
  · unfold leafAt; rw [h]; exact Or.inl rfl
  · exact (leafE_zero.1 (h2 _ (leafAt_has h3 h).1)).2.1
theorem write_book {l : List Leaf} {p : ByteArray} {c : Int} (h : writeE l p c = 0) : bookE (writeL l p c) = 0 ∧ writeL l p c = putL l p (wrX l p c) := by
  have h0 := h
  obtain ⟨h1, h2⟩ := writeE_zero.1 h
  obtain ⟨h3, h4⟩ := withE_zero.1 h1
  obtain ⟨h5, h6, h7⟩ := wrE_zero.1 h2
  have e : writeL l p c = putL l p (wrX l p c) := by unfold writeL; rw [if_pos h0]
  rw [e]
  exact ⟨put_book h3 rfl (leafE_zero.2 ⟨h4, Or.inr h5, Or.inl (isL_ne h5).1⟩) h7, rfl⟩
theorem strike_book {l : List Leaf} {p : ByteArray} (h : strikeE l p = 0) : bookE (strikeL l p) = 0 ∧ strikeL l p = putL l p (stX l p) := by
  have h0 := h
  obtain ⟨h1, h2⟩ := strikeE_zero.1 h
  obtain ⟨h3, h4⟩ := withE_zero.1 h1
  have e : strikeL l p = putL l p (stX l p) := by unfold strikeL; rw [if_pos h0]
  rw [e]
  exact ⟨put_book h3 rfl (leafE_zero.2 ⟨h4, leafAt_ok h3, Or.inr rfl⟩) h2, rfl⟩

/- written here and struck there, either way round -/
theorem either_ws {l : List Leaf} {p q : ByteArray} {c : Int} (h1 : writeE l p c = 0) (h2 : strikeE (writeL l p c) q = 0) (h3 : strikeE l q = 0) (h4 : writeE (strikeL l q) p c = 0) : strikeL (writeL l p c) q = writeL (strikeL l q) p c := by
  have hr : Rise l := (bookE_zero.1 (withE_zero.1 (writeE_zero.1 h1).1).1).2.2
  rw [(strike_book h2).2, (write_book h4).2, (write_book h1).2, (strike_book h3).2]
  have kx : (wrX l p c).1 = p := rfl
  have ky : (stX l q).1 = q := rfl
  have e1 : stX (putL l p (wrX l p c)) q = (q, (if q = p then wrX l p c else leafAt l q).2.1, true) := by show (q, (leafAt (putL l p (wrX l p c)) q).2.1, true) = _; rw [leafAt_put hr kx]
  have e2 : wrX (putL l q (stX l q)) p c = (p, c, (if p = q then stX l q else leafAt l p).2.2) := by show (p, c, (leafAt (putL l q (stX l q)) p).2.2) = _; rw [leafAt_put hr ky]
  rw [e1, e2]
  by_cases h : p = q
  · subst h
    rw [if_pos rfl, if_pos rfl, put_again hr kx (y := (p, (wrX l p c).2.1, true)) rfl, put_again hr ky (y := (p, c, (stX l p).2.2)) rfl]
    rfl
  · rw [if_neg (fun e => h e.symm), if_neg h, put_swap hr kx (y := (q, (leafAt l q).2.1, true)) rfl h]
    rfl
/- written here and there, either way round -/
theorem either_ww {l : List Leaf} {p q : ByteArray} {c o : Int} (h1 : writeE l p c = 0) (h2 : writeE (writeL l p c) q o = 0) (h3 : writeE l q o = 0) (h4 : writeE (writeL l q o) p c = 0) : writeL (writeL l p c) q o = writeL (writeL l q o) p c := by
  have hr : Rise l := (bookE_zero.1 (withE_zero.1 (writeE_zero.1 h1).1).1).2.2
  have hc := (wrE_zero.1 (writeE_zero.1 h2).2).2.1
  have hl := (wrE_zero.1 (writeE_zero.1 h1).2).1
  rw [(write_book h1).2] at hc
  rw [(write_book h2).2, (write_book h4).2, (write_book h1).2, (write_book h3).2]
  have kx : (wrX l p c).1 = p := rfl
  have ky : (wrX l q o).1 = q := rfl
  have e1 : wrX (putL l p (wrX l p c)) q o = (q, o, (if q = p then wrX l p c else leafAt l q).2.2) := by show (q, o, (leafAt (putL l p (wrX l p c)) q).2.2) = _; rw [leafAt_put hr kx]
  have e2 : wrX (putL l q (wrX l q o)) p c = (p, c, (if p = q then wrX l q o else leafAt l p).2.2) := by show (p, c, (leafAt (putL l q (wrX l q o)) p).2.2) = _; rw [leafAt_put hr ky]
  rw [e1, e2]
  by_cases h : p = q
  · subst h
    rw [leafAt_put hr kx, if_pos rfl] at hc
    have hco : c = o := by
      unfold clash wrX at hc
      rw [Bool.and_eq_false_iff] at hc
      rcases hc with hc | hc
      · have := (isL_ne hl).1; simp at hc; exact absurd hc this
      · simpa using hc
    rw [if_pos rfl, if_pos rfl, put_again hr kx (y := (p, o, (wrX l p c).2.2)) rfl, put_again hr ky (y := (p, c, (wrX l p o).2.2)) rfl, hco]
  · rw [if_neg (fun e => h e.symm), if_neg h, put_swap hr kx (y := (q, o, (leafAt l q).2.2)) rfl h]
    rfl

/- what is isS -/
theorem text_append (a b : List Leaf) : text (a ++ b) = text a ++ text b := by unfold text; rw [List.filter_append, List.map_append]
theorem text_cons (x : Leaf) (l : List Leaf) : text (x :: l) = if isS x then letter x :: text l else text l := by
  unfold text; rw [List.filter_cons]; split <;> rfl
theorem text_len_le : ∀ l : List Leaf, (text l).length ≤ l.length := by
  intro l; unfold text; rw [List.length_map]; exact List.length_filter_le _ _
theorem nth_at {x : Leaf} {B : List Leaf} (hs : isS x = true) : ∀ (A : List Leaf) (i : Nat), nth (A ++ x :: B) i ((text A).length : Int) = ((i + A.length : Nat) : Int)
  | [], i => by simp [nth, hs, text]
  | y :: A, i => by
    rw [List.cons_append, nth, text_cons]
    cases h : isS y
    · simp only [Bool.false_eq_true, if_false]
      rw [nth_at hs A (i + 1)]; simp; omega
    · simp only [if_true, List.length_cons]
      rw [if_neg (by omega), show (((text A).length + 1 : Nat) : Int) - 1 = ((text A).length : Int) by omega, nth_at hs A (i + 1)]
      simp; omega
theorem take_put {l : List Leaf} (hr : Rise l) {p : ByteArray} {x : Leaf} (hx : x.1 = p) : ahd (putL l p x) p.toList = ahd l p.toList ∧ has (putL l p x) p.toList = true ∧ (putL l p x).getD (ahd l p.toList) none0 = x ∧ (putL l p x).take (ahd l p.toList) = l.take (ahd l p.toList) := by
  have hle := ahead_le (p := p.toList) hr
  have hr2 := put_rise hr hx
  have e3 : (putL l p x).getD (ahd l p.toList) none0 = x := by
    unfold putL
    rw [List.getD_eq_getElem?_getD, List.getElem?_append_right (by rw [List.length_take]; omega), List.length_take, Nat.min_eq_left hle, Nat.sub_self]
    rfl
  have e4 : (putL l p x).take (ahd l p.toList) = l.take (ahd l p.toList) := by
    unfold putL
    rw [List.take_append_of_le_length (by rw [List.length_take]; omega), List.take_take, Nat.min_self]
  have hlen := put_length hr p x
  have hlt : ahd l p.toList < (putL l p x).length := by
    rw [hlen]
    cases hh : has l p.toList
    · simp; omega
    · unfold has at hh; rw [Bool.and_eq_true, decide_eq_true_eq] at hh; simp; exact hh.1
  have e1 : ahd (putL l p x) p.toList = ahd l p.toList := by
    refine ahead_eq hr2 (by omega) (fun j hj => ?_) (fun j hj hj2 => ?_)
    · have h1 : (putL l p x).getD j none0 ∈ l.take (ahd l p.toList) := by
        rw [← e4, List.mem_take_iff_getElem]
        exact ⟨j, by omega, by rw [List.getD_eq_getElem?_getD, List.getElem?_eq_getElem (show j < (putL l p x).length by omega)]; rfl⟩
      exact (take_less hr h1).2
    · rcases Nat.lt_or_eq_of_le hj with h | h
      · have := rise_lt hr2 h hj2
        rw [e3, hx] at this
        exact less_asymm this
      · rw [← h, e3, hx, less_irrefl]
  refine ⟨e1, ?_, e3, e4⟩
  exact (has_iff hr2).2 ⟨x, (put_mem hr hx x).2 (Or.inl rfl), by rw [hx]⟩
/- the leaf that was written is where it is sought, and isS there -/
theorem split_at {l : List Leaf} {i : Nat} (hi : i < l.length) : l = l.take i ++ l.getD i none0 :: l.drop (i + 1) := by
  conv => lhs; rw [← List.take_append_drop i l]
  congr 1
  rw [List.drop_eq_getElem_cons hi, List.getD_eq_getElem?_getD, List.getElem?_eq_getElem hi]; rfl
theorem seen_at {l : List Leaf} {i : Nat} (hi : i < l.length) (hs : isS (l.getD i none0) = true) :
    nth l 0 ((text (l.take i)).length : Int) = (i : Int) ∧ (text l)[(text (l.take i)).length]? = some (letter (l.getD i none0)) := by
  have e := split_at hi
  have hl : (l.take i).length = i := by rw [List.length_take]; omega
  constructor
  · have h := nth_at (x := l.getD i none0) (B := l.drop (i + 1)) hs (l.take i) 0
    rw [← e, hl, Nat.zero_add] at h
    exact h
  · have h : text l = text (l.take i) ++ letter (l.getD i none0) :: text (l.drop (i + 1)) := by
      conv => lhs; rw [e]
      rw [text_append, text_cons, hs, if_pos rfl]
    rw [h, List.getElem?_append_right (Nat.le_refl _), Nat.sub_self]; rfl
theorem letter_nat {x : Leaf} (h : isL x.2.1 = true) : ((letter x).toNat : Int) = x.2.1 := by
  have := isL_ne h
  unfold letter
  rw [UInt8.toNat_ofNat']
  omega
theorem written {l : List Leaf} {p : ByteArray} {c : Int} (h : writeE l p c = 0) :
    has (writeL l p c) p.toList = true ∧ ahd (writeL l p c) p.toList < (writeL l p c).length ∧ (writeL l p c).getD (ahd (writeL l p c) p.toList) none0 = wrX l p c := by
  have hr : Rise l := (bookE_zero.1 (withE_zero.1 (writeE_zero.1 h).1).1).2.2
  rw [(write_book h).2]
  obtain ⟨h1, h2, h3, h4⟩ := take_put (p := p) (x := wrX l p c) hr rfl
  refine ⟨h2, ?_, by rw [h1]; exact h3⟩
  unfold has at h2; rw [Bool.and_eq_true, decide_eq_true_eq] at h2; exact h2.1

end Bm
end Go.Proofs.Ytaefoieoachdfaa
