/- The plain mathematics of what is taken back: which ops take back the last ones that still show. No program is named here. -/
import Derived.Test.YtlmdchpbpgcfmaaGreatU0
import Derived.Test.YtlmdchpbpgcfmaaGreatJ1
namespace Go.Proofs.YtlmdchpbpgcfmaaGreat
namespace Ba
set_option linter.unusedVariables false
open Cm Om Hm Um
open Op (bytesLess)
open Bm (Leaf none0 ahd has leafAt bookE isL putE putL stX wrX wrE)

/- how many strikes of a place there are -/
def cnt (l : List Ox) (p : ByteArray) : Nat := (l.filter fun o => decide (o.2.1 = 2) && decide (o.2.2.1 = p)).length
theorem cnt_append (a b : List Ox) (p : ByteArray) : cnt (a ++ b) p = cnt a p + cnt b p := by unfold cnt; rw [List.filter_append, List.length_append]
theorem cnt_le (l : List Ox) (p : ByteArray) : cnt l p ≤ l.length := List.length_filter_le _ _
theorem cnt_take {l : List Ox} {k : Nat} {z : Ox} (h : k < l.length) (p : ByteArray) : cnt (l.take (k + 1)) p = cnt (l.take k) p + (if (l.getD k z).2.1 = 2 ∧ (l.getD k z).2.2.1 = p then 1 else 0) := by
  rw [List.take_succ_eq_append_getElem h, cnt_append, List.getD_eq_getElem?_getD, List.getElem?_eq_getElem h]
  congr 1
  show ([l[k]].filter _).length = if l[k].2.1 = 2 ∧ l[k].2.2.1 = p then 1 else 0
  by_cases h1 : l[k].2.1 = 2 ∧ l[k].2.2.1 = p
  · rw [if_pos h1]; simp [h1.1, h1.2]
  · rw [if_neg h1]
    have : (decide (l[k].2.1 = 2) && decide (l[k].2.2.1 = p)) = false := by simpa using h1
    simp [this]
/- the place of the leaf behind -/
def behind (B : List Leaf) (p : ByteArray) : ByteArray := if ahd B p.toList + 1 < B.length then (B.getD (ahd B p.toList + 1) none0).1 else ⟨#[]⟩
/- is it a write that shows, a strike that shows, or neither? -/
def kind (S : Dq) (who : Int) (o : Ox) (B : List Leaf) (L : List Ox) : Nat :=
  if o.1.1 ≠ who ∨ has B o.2.2.1.toList = false ∨ (leafAt B o.2.2.1).2.1 = 0 then 0
  else if o.2.1 = 1 ∧ (leafAt B o.2.2.1).2.2 = false then 1
  else if o.2.1 = 2 ∧ (leafAt B o.2.2.1).2.2 = true ∧ cnt S.ops o.2.2.1 + cnt L o.2.2.1 = 1 then 2
  else 0
def newP (who : Int) (o : Ox) (B : List Leaf) : ByteArray := stepP o.2.2.1 (behind B o.2.2.1) who
def betE (who : Int) (o : Ox) (B : List Leaf) : Int := Pm.betErr o.2.2.1.toList (behind B o.2.2.1).toList who
def let' (o : Ox) (B : List Leaf) : Int := (leafAt B o.2.2.1).2.1
def stO (S : Dq) (who : Int) (o : Ox) (L : List Ox) : Ox := ((who, kn S who + 1 + L.length), 2, o.2.2.1, 0, [])
def wrO (S : Dq) (who : Int) (o : Ox) (B : List Leaf) (L : List Ox) : Ox := ((who, kn S who + 1 + L.length), 1, newP who o B, let' o B, [])
def stB (o : Ox) (B : List Leaf) : List Leaf := putL B o.2.2.1 (stX B o.2.2.1)
def wrB (who : Int) (o : Ox) (B : List Leaf) : List Leaf := putL B (newP who o B) (wrX B (newP who o B) (let' o B))
/- the latest first -/
def und (S : Dq) (who : Int) : List Ox → Nat → List Leaf → List Ox → Int × List Ox
  | [], _, _, L => (0, L)
  | _ :: _, 0, _, L => (0, L)
  | o :: r, k + 1, B, L =>
    if kind S who o B L = 1 then und S who r k (stB o B) (L ++ [stO S who o L])
    else if kind S who o B L = 2 then
      (if betE who o B ≠ 0 then (betE who o B, []) else if wrE B (newP who o B) (let' o B) ≠ 0 then (wrE B (newP who o B) (let' o B), []) else und S who r k (wrB who o B) (L ++ [wrO S who o B L]))
    else und S who r (k + 1) B L
def undE (S : Dq) (who n : Int) : Int := if Pm.isWho who = false ∨ n < 0 ∨ 200 < n then 1 else (und S who S.ops.reverse n.toNat S.book []).1
def undL (S : Dq) (who n : Int) : List Ox := if Pm.isWho who = false ∨ n < 0 ∨ 200 < n then [] else (und S who S.ops.reverse n.toNat S.book []).2
theorem und_none (S : Dq) (who : Int) (l : List Ox) (B : List Leaf) (L : List Ox) : und S who l 0 B L = (0, L) := by cases l <;> rfl
theorem und_st {S : Dq} {who : Int} {o : Ox} {r : List Ox} {k : Nat} {B : List Leaf} {L : List Ox} (h : kind S who o B L = 1) : und S who (o :: r) (k + 1) B L = und S who r k (stB o B) (L ++ [stO S who o L]) := by
  rw [und, if_pos h]
theorem und_skip {S : Dq} {who : Int} {o : Ox} {r : List Ox} {k : Nat} {B : List Leaf} {L : List Ox} (h : kind S who o B L = 0) : und S who (o :: r) (k + 1) B L = und S who r (k + 1) B L := by
  rw [und, if_neg (by omega), if_neg (by omega)]
theorem und_wr {S : Dq} {who : Int} {o : Ox} {r : List Ox} {k : Nat} {B : List Leaf} {L : List Ox} (h : kind S who o B L = 2) : und S who (o :: r) (k + 1) B L = if betE who o B ≠ 0 then (betE who o B, []) else if wrE B (newP who o B) (let' o B) ≠ 0 then (wrE B (newP who o B) (let' o B), []) else und S who r k (wrB who o B) (L ++ [wrO S who o B L]) := by
  rw [und, if_neg (by omega), if_pos h]
theorem kind_pos {S : Dq} {who : Int} {o : Ox} {B : List Leaf} {L : List Ox} (h : kind S who o B L ≠ 0) : o.1.1 = who ∧ has B o.2.2.1.toList = true ∧ (leafAt B o.2.2.1).2.1 ≠ 0 := by
  unfold kind at h
  by_cases h1 : o.1.1 ≠ who ∨ has B o.2.2.1.toList = false ∨ (leafAt B o.2.2.1).2.1 = 0
  · rw [if_pos h1] at h; exact absurd rfl h
  · simp only [not_or, Decidable.not_not] at h1
    refine ⟨h1.1, ?_, h1.2.2⟩
    cases e : has B o.2.2.1.toList with
    | false => exact absurd e h1.2.1
    | true => rfl
/- the book stays right -/
theorem st_book {o : Ox} {B : List Leaf} (hb : bookE B = 0) (hp : Pm.chk o.2.2.1.toList = 0) (hh : has B o.2.2.1.toList = true) : bookE (stB o B) = 0 ∧ Bm.strikeE B o.2.2.1 = 0 ∧ Bm.strikeL B o.2.2.1 = stB o B := by
  have h0 : Bm.strikeE B o.2.2.1 = 0 := Bm.strikeE_zero.2 ⟨Bm.withE_zero.2 ⟨hb, hp⟩, Bm.putE_zero.2 (Or.inl hh)⟩
  have h1 := Bm.strike_book h0
  exact ⟨by rw [h1.2] at h1; exact h1.1, h0, h1.2⟩
theorem wr_book {who : Int} {o : Ox} {B : List Leaf} (hb : bookE B = 0) (h1 : betE who o B = 0) (h2 : wrE B (newP who o B) (let' o B) = 0) : bookE (wrB who o B) = 0 ∧ Bm.writeE B (newP who o B) (let' o B) = 0 ∧ Bm.writeL B (newP who o B) (let' o B) = wrB who o B := by
  have hs := step_ok h1
  have h0 : Bm.writeE B (newP who o B) (let' o B) = 0 := by
    unfold Bm.writeE
    have hw : Bm.withE B (newP who o B) = 0 := Bm.withE_zero.2 ⟨hb, hs.chk⟩
    rw [if_neg (by rw [hw]; simp)]; exact h2
  have h3 := Bm.write_book h0
  exact ⟨by rw [h3.2] at h3; exact h3.1, h0, h3.2⟩

end Ba
end Go.Proofs.YtlmdchpbpgcfmaaGreat
