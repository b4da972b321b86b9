/- What BookEither asks of books, in plain words. -/
import Derived.Test.YtaefoieoachdfaaLk
namespace Go.Proofs.Ytaefoieoachdfaa
namespace Ea
set_option linter.unusedVariables false
open Go.ChangeShapes Go.WideShapes Go.ChangeAt Go.RowKit Bm Ka Kb La Lb Lc Ld Le Lf Lg Lh Li Lj Lk

def nb : ByteArray := ⟨#[110, 98]⟩
theorem nb_list : nb.toList = [110, 98] := ByteArray.toList_mk [110, 98]
theorem nb_chk : Pm.chk nb.toList = 0 := by rw [nb_list]; decide
theorem nb_book : bookE [] = 0 := by decide
theorem nb_write : writeE [] nb 104 = 0 ∧ writeL [] nb 104 = [(nb, 104, false)] := by
  have h : writeE [] nb 104 = 0 := writeE_zero.2 ⟨withE_zero.2 ⟨nb_book, nb_chk⟩, wrE_zero.2 ⟨rfl, rfl, rfl⟩⟩
  exact ⟨h, by rw [(write_book h).2]; rfl⟩
theorem put_size {l : List Leaf} {p : ByteArray} {x : Leaf} (hr : Rise l) (hx : x.1 = p) (hs : ∀ y ∈ l, y.1.size ≤ maxLen) (hp : p.size ≤ maxLen) : ∀ y ∈ putL l p x, y.1.size ≤ maxLen := by
  intro y hy
  rcases (put_mem hr hx y).1 hy with rfl | ⟨h, _⟩
  · rw [hx]; exact hp
  · exact hs y h
theorem write_size {l : List Leaf} {p : ByteArray} (c : Int) (hs : ∀ y ∈ l, y.1.size ≤ maxLen) (hp : p.size ≤ maxLen) : ∀ y ∈ writeL l p c, y.1.size ≤ maxLen := by
  by_cases h : writeE l p c = 0
  · rw [(write_book h).2]
    exact put_size (bookE_zero.1 (withE_zero.1 (writeE_zero.1 h).1).1).2.2 rfl hs hp
  · unfold writeL; rw [if_neg h]; intro y hy; simp at hy
theorem strike_size {l : List Leaf} {p : ByteArray} (hs : ∀ y ∈ l, y.1.size ≤ maxLen) (hp : p.size ≤ maxLen) : ∀ y ∈ strikeL l p, y.1.size ≤ maxLen := by
  by_cases h : strikeE l p = 0
  · rw [(strike_book h).2]
    exact put_size (bookE_zero.1 (withE_zero.1 (strikeE_zero.1 h).1).1).2.2 rfl hs hp
  · unfold strikeL; rw [if_neg h]; intro y hy; simp at hy
theorem write_len {l : List Leaf} {p : ByteArray} (c : Int) : (writeL l p c).length ≤ 300 := by
  by_cases h : writeE l p c = 0
  · exact (book_ok (write_book h).1).1
  · unfold writeL; rw [if_neg h]; simp
theorem strike_len {l : List Leaf} {p : ByteArray} : (strikeL l p).length ≤ 300 := by
  by_cases h : strikeE l p = 0
  · exact (book_ok (strike_book h).1).1
  · unfold strikeL; rw [if_neg h]; simp
/- is an error nil? -/
set_option maxRecDepth 100000 in
theorem err_nil (k : Int) (w : World) : (binOp .eql 24 (errV k) .nilIface).run Try.prog w = .ok (.bool (k == 0)) w := by
  by_cases h : k = 0
  · subst h; rfl
  · rw [errV_ne h]
    have e : (k == 0) = false := by simpa using h
    rw [e]; rfl
set_option maxRecDepth 100000 in
theorem err_guard (k : Int) (n : Nat) (w : World) : (eqGuard .eql 24 (.tmp n) (.const .nilIface) (errV k) .nilIface).run Try.prog w = .ok () w := by
  by_cases h : k = 0
  · subst h; rfl
  · rw [errV_ne h]; rfl
/- behind a letter that was written -/
structure Tail (l : List Leaf) (p : ByteArray) (c : Int) (A : List Leaf) (i kk : Nat) (T : ByteArray) (s : Bool) : Prop where
  find : ahd A p.toList = i ∧ has A p.toList = true
  lt : i < A.length
  leaf : A.getD i none0 = (p, c, s)
  book : bookE A = 0
  text : textR A = T
  off : withE A p = 0 ∧ offR A p = (kk : Int)
  at_ : s = false → atE A kk = 0 ∧ atR A kk = (i : Int)
  big : kk ≤ 300
  letr : s = false → ∃ h : kk < T.size, ((T[kk].toNat : Int) = c)
theorem tail_of {l : List Leaf} {p : ByteArray} {c : Int} (h : writeE l p c = 0) : ∃ i kk T s, Tail l p c (writeL l p c) i kk T s := by
  have hw := Bm.written h
  have hb := write_book h
  have hk := book_ok hb.1
  have hchk := (withE_zero.1 (writeE_zero.1 h).1).2
  have hl : isL c = true := (wrE_zero.1 (writeE_zero.1 h).2).1
  obtain ⟨A, hA⟩ : ∃ A, A = writeL l p c := ⟨_, rfl⟩
  rw [← hA] at hw hb hk ⊢
  have hwe : withE A p = 0 := withE_zero.2 ⟨hb.1, hchk⟩
  have hoff : offR A p = ((text (A.take (ahd A p.toList))).length : Int) := by unfold offR; rw [if_pos hwe]
  refine ⟨ahd A p.toList, (text (A.take (ahd A p.toList))).length, textR A, (leafAt l p).2.2, ⟨⟨rfl, hw.1⟩, hw.2.1, hw.2.2, hb.1, rfl, ⟨hwe, hoff⟩, ?_, ?_, ?_⟩⟩
  · intro hs
    have hse : isS (A.getD (ahd A p.toList) none0) = true := by
      rw [hw.2.2]; unfold isS wrX; rw [hs]; simp; exact (isL_ne hl).1
    have hn := (seen_at hw.2.1 hse).1
    have ha : atE A ((text (A.take (ahd A p.toList))).length : Int) = 0 := by
      unfold atE; rw [if_neg (by simp [hb.1]), if_neg (by omega), if_neg (by rw [hn]; omega)]
    exact ⟨ha, by unfold atR; rw [ha, if_pos rfl, hn]⟩
  · have := text_len_le (A.take (ahd A p.toList)); rw [List.length_take] at this; omega
  · intro hs
    have hse : isS (A.getD (ahd A p.toList) none0) = true := by
      rw [hw.2.2]; unfold isS wrX; rw [hs]; simp; exact (isL_ne hl).1
    have hn := (seen_at hw.2.1 hse).2
    rw [hw.2.2] at hn
    have hlt := (List.getElem?_eq_some_iff.1 hn)
    obtain ⟨h1, h2⟩ := hlt
    have hT : textR A = ⟨(text A).toArray⟩ := by unfold textR; rw [if_pos hb.1]
    refine ⟨by rw [hT]; exact h1, ?_⟩
    have e : (textR A)[(text (A.take (ahd A p.toList))).length]'(by rw [hT]; exact h1) = letter (wrX l p c) := by
      rw [← h2]; simp only [hT]; rfl
    rw [e]
    exact letter_nat (x := wrX l p c) hl

end Ea
end Go.Proofs.Ytaefoieoachdfaa
