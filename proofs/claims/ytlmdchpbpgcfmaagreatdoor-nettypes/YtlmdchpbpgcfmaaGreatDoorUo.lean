/- The plain mathematics of EditTypes: letter by letter, or at once. No program is named here. -/
import Derived.Test.YtlmdchpbpgcfmaaGreatDoorU0
namespace Go.Proofs.YtlmdchpbpgcfmaaGreatDoor
namespace Um
set_option linter.unusedVariables false
open Cm Om Hm
open Op (bytesLess)
open Bm (Leaf none0)

theorem sides_ok {a b : List UInt8} (ha : a = [] ∨ Pm.chk a = 0) (hb : b = [] ∨ Pm.chk b = 0) (h : a = [] ∨ b = [] ∨ bytesLess a b = true) : Pm.sides a b = 0 := by
  unfold Pm.sides
  rcases ha with rfl | ha
  · rcases hb with rfl | hb
    · rfl
    · simp [hb]
  · rcases hb with rfl | hb
    · simp [ha]
    · rcases h with rfl | rfl | h
      · simp [hb]
      · simp [ha]
      · simp [ha, hb, h]
/- there is room, or it is too deep -/
theorem sides_at {S : Dq} (I : Inv S) {off : Nat} (h : off ≤ (seenP S.book).length) : Pm.sides (leftP S.book off).toList (rightP S.book off).toList = 0 := by
  obtain ⟨_, _, c1, c2⟩ := left_small I.book off
  obtain ⟨_, hlf, hr⟩ := Bm.bookE_zero.1 I.book
  by_cases h0 : off = 0
  · have e : leftP S.book off = ⟨#[]⟩ := by unfold leftP; rw [if_pos h0]
    rw [e, emp_list]
    exact sides_ok (Or.inl rfl) c2 (Or.inl rfl)
  · refine sides_ok (Or.inr (c1 h h0)) c2 ?_
    obtain ⟨d1, d2, d3⟩ := cut_off h
    obtain ⟨e1, e2, _⟩ := d3 (by omega)
    by_cases hn : nxt S.book off < S.book.length
    · right; right
      have e : rightP S.book off = (S.book.getD (nxt S.book off) none0).1 := by unfold rightP; rw [if_pos hn]
      rw [e, ← e2]
      exact Bm.rise_lt hr (by omega) hn
    · have e : rightP S.book off = ⟨#[]⟩ := by unfold rightP; rw [if_neg hn]
      right; left
      rw [e, emp_list]
/- a doc into which a text's first letters were typed -/
structure Typ (T : Dq) (t : ByteArray) (i : Nat) : Prop where
  inv : Inv T
  text : Bm.text T.book = t.toList.take i
  blen : T.book.length = i
  olen : T.ops.length = i
/- at once -/
end Um
end Go.Proofs.YtlmdchpbpgcfmaaGreatDoor
