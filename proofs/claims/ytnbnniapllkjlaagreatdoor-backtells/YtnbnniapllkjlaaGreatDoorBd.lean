
import Derived.Test.YtnbnniapllkjlaaGreatDoorBc
import Derived.Test.YtnbnniapllkjlaaGreatDoorUtp
import Derived.Test.YtnbnniapllkjlaaGreatDoorK1
import Derived.Test.YtnbnniapllkjlaaGreatDoorBa
namespace Go.Proofs.YtnbnniapllkjlaaGreatDoor
namespace Bd
set_option linter.unusedVariables false
set_option linter.unusedSimpArgs false
open Go.ChangeShapes Go.WideShapes Go.ChangeAt Go.RowKit Cm Ka Kb Na Om Oa Oz Oc Og Oi Hm Ia Ic Ie Um Aa Ac Xp Usp Utp Ba
open La (bel bel_drew errV_zero errV_ne own_ge own_grow own_below Lies LeafsIn)
open Lj (BookAt BookNew)
open Bm (Leaf none0 ahd has leafAt bookE isL putE putL stX wrX wrE)
structure Uz' (w wr : World) (M : Nat) (S : Dq) (who : Int) (n j k : Nat) (vb : Value) (B : List Leaf) (vL : Value) (L : List (Ox × Value)) : Prop where
  bk : BookAt wr vb B
  ok : bookE B = 0
  ap : In (fun g => g < wr.heap.size ∧ g ≠ M ∧ vL.ownBlock ≠ some g) vb
  mkr : MkAt w.heap.size wr M who (kn S who + L.length) vL L
  un : und S who (S.ops.take j).reverse k B (L.map (·.1)) = und S who S.ops.reverse n S.book []
  bel : Below w.heap.size w wr
  ln : k + L.length ≤ n
section
variable {w wr w' : World} {M : Nat} {S : Dq} {who : Int} {n j k : Nat} {vb v' vL vL' : Value} {B : List Leaf} {L : List (Ox × Value)}
theorem Uz'.below (h : Uz' w wr M S who n j k vb B vL L) (hb : Below wr.heap.size wr w') : Uz' w w' M S who n j k vb B vL L :=
  ⟨h.bk.below hb, h.ok, h.ap.mono fun g ⟨h1, h2, h3⟩ => ⟨Nat.lt_of_lt_of_le h1 hb.size, h2, h3⟩, h.mkr.below hb, h.un, La.bel h.bel hb, h.ln⟩
theorem take_rev {l : List Ox} {j : Nat} (h : j < l.length) : (l.take (j + 1)).reverse = l.getD j oz :: (l.take j).reverse := by
  rw [List.take_succ_eq_append_getElem h, List.reverse_append, List.getD_eq_getElem?_getD, List.getElem?_eq_getElem h]; rfl
theorem Uz'.skip (h : Uz' w wr M S who n (j + 1) (k + 1) vb B vL L) (hj : j < S.ops.length) (hk : kind S who (S.ops.getD j oz) B (L.map (·.1)) = 0) : Uz' w wr M S who n j (k + 1) vb B vL L :=
  ⟨h.bk, h.ok, h.ap, h.mkr, by rw [← h.un, take_rev hj, und_skip hk], h.bel, h.ln⟩
theorem Uz'.add (h : Uz' w wr M S who n j k vb B vL L) {x : Ox × Value} (h1 : MkAt w.heap.size w' M who (kn S who + L.length + 1) vL' (L ++ [x])) (hz : wr.heap.size ≤ w'.heap.size) (ho : ∀ g, g < wr.heap.size → g ≠ M → vL.ownBlock ≠ some g → w'.heap[g]? = wr.heap[g]?) : BookAt w' vb B :=
  book_stay h.bk h.ap fun g ⟨q1, q2, q3⟩ => ho g q1 q2 q3
theorem new_ap {w5 : World} {C : Nat} (hb : BookNew C w5 v' B) (hM : M < C) (hv : ∀ g, vL'.ownBlock = some g → g < C) : In (fun g => g < w5.heap.size ∧ g ≠ M ∧ vL'.ownBlock ≠ some g) v' := by
  intro a m c e hm
  have hl := hb.2 a m c e hm
  obtain ⟨p, c9, e9, hi, _⟩ := hb.1
  rw [e] at e9
  injection e9 with e91 e92 e93
  subst e91
  refine ⟨?_, by omega, fun e => by have := hv _ e; omega⟩
  rcases hi with h0 | ⟨b, o, hp, hc⟩
  · rw [h0] at e92; simp at e92; omega
  · injection hp with hp
    rw [hp]
    exact (hc 0 (by omega)).lt
theorem Uz'.st {w4 w5 : World} {vs : Value} (h : Uz' w wr M S who n (j + 1) (k + 1) vb B vL L) (hj : j < S.ops.length) (hk : kind S who (S.ops.getD j oz) B (L.map (·.1)) = 1) (hp : Pm.chk (S.ops.getD j oz).2.2.1.toList = 0)
    (h1 : MkAt w.heap.size w4 M who (kn S who + L.length + 1) vL' (L ++ [(((who, kn S who + L.length + 1), 2, (S.ops.getD j oz).2.2.1, 0, []), vs)])) (hb4 : Below w.heap.size w w4) (hb : BookNew w4.heap.size w5 v' (Me.stL B (S.ops.getD j oz).2.2.1)) (hb5 : Below w4.heap.size w4 w5) :
    Uz' w w5 M S who n j k v' (stB (S.ops.getD j oz) B) vL' (L ++ [(((who, kn S who + L.length + 1), 2, (S.ops.getD j oz).2.2.1, 0, []), vs)]) := by
  obtain ⟨k1, k2, k3⟩ := kind_pos (by rw [hk]; decide)
  obtain ⟨b1, b2, b3⟩ := st_book h.ok hp k2
  have hp0 : putE B (S.ops.getD j oz).2.2.1 = 0 := Bm.putE_zero.2 (Or.inl k2)
  have hs : Me.stL B (S.ops.getD j oz).2.2.1 = stB (S.ops.getD j oz) B := by unfold Me.stL stB; rw [if_pos hp0]
  rw [hs] at hb
  refine ⟨hb.1, b1, new_ap hb h1.lt fun g hg => (own_lt h1.row g hg).1, ?_, ?_, hb4.trans (hb5.mono hb4.size), by have := h.ln; simp; omega⟩
  · have := h1.below hb5
    rw [List.length_append, List.length_singleton, Int.natCast_add]
    have e : kn S who + ((L.length : Int) + ((1 : Nat) : Int)) = kn S who + (L.length : Int) + 1 := by omega
    rw [e]; exact this
  · rw [← h.un, take_rev hj, und_st hk, List.map_append]
    have e : stO S who (S.ops.getD j oz) (L.map (·.1)) = ((who, kn S who + L.length + 1), 2, (S.ops.getD j oz).2.2.1, 0, []) := by
      unfold stO; rw [List.length_map, show kn S who + 1 + (L.length : Int) = kn S who + L.length + 1 by omega]
    rw [e]; rfl
theorem Uz'.wrt {w4 w5 : World} {vs : Value} (h : Uz' w wr M S who n (j + 1) (k + 1) vb B vL L) (hj : j < S.ops.length) (hk : kind S who (S.ops.getD j oz) B (L.map (·.1)) = 2) (hE : betE who (S.ops.getD j oz) B = 0) (hW : wrE B (newP who (S.ops.getD j oz) B) (let' (S.ops.getD j oz) B) = 0)
    (h1 : MkAt w.heap.size w4 M who (kn S who + L.length + 1) vL' (L ++ [(((who, kn S who + L.length + 1), 1, newP who (S.ops.getD j oz) B, let' (S.ops.getD j oz) B, []), vs)])) (hb4 : Below w.heap.size w w4) (hb : BookNew w4.heap.size w5 v' (Me.wrL B (newP who (S.ops.getD j oz) B) (let' (S.ops.getD j oz) B))) (hb5 : Below w4.heap.size w4 w5) :
    Uz' w w5 M S who n j k v' (wrB who (S.ops.getD j oz) B) vL' (L ++ [(((who, kn S who + L.length + 1), 1, newP who (S.ops.getD j oz) B, let' (S.ops.getD j oz) B, []), vs)]) := by
  obtain ⟨b1, b2, b3⟩ := wr_book h.ok hE hW
  have hs : Me.wrL B (newP who (S.ops.getD j oz) B) (let' (S.ops.getD j oz) B) = wrB who (S.ops.getD j oz) B := by unfold Me.wrL wrB; rw [if_pos hW]
  rw [hs] at hb
  refine ⟨hb.1, b1, new_ap hb h1.lt fun g hg => (own_lt h1.row g hg).1, ?_, ?_, hb4.trans (hb5.mono hb4.size), by have := h.ln; simp; omega⟩
  · have := h1.below hb5
    rw [List.length_append, List.length_singleton, Int.natCast_add]
    have e : kn S who + ((L.length : Int) + ((1 : Nat) : Int)) = kn S who + (L.length : Int) + 1 := by omega
    rw [e]; exact this
  · rw [← h.un, take_rev hj, und_wr hk, if_neg (by rw [hE]; simp), if_neg (by rw [hW]; simp), List.map_append]
    have e : wrO S who (S.ops.getD j oz) B (L.map (·.1)) = ((who, kn S who + L.length + 1), 1, newP who (S.ops.getD j oz) B, let' (S.ops.getD j oz) B, []) := by
      unfold wrO; rw [List.length_map, show kn S who + 1 + (L.length : Int) = kn S who + L.length + 1 by omega]
    rw [e]; rfl
theorem Uz'.e1 (h : Uz' w wr M S who n (j + 1) (k + 1) vb B vL L) (hj : j < S.ops.length) (hk : kind S who (S.ops.getD j oz) B (L.map (·.1)) = 2) (hE : betE who (S.ops.getD j oz) B ≠ 0) : und S who S.ops.reverse n S.book [] = (betE who (S.ops.getD j oz) B, []) := by
  rw [← h.un, take_rev hj, und_wr hk, if_pos hE]
theorem Uz'.e2 (h : Uz' w wr M S who n (j + 1) (k + 1) vb B vL L) (hj : j < S.ops.length) (hk : kind S who (S.ops.getD j oz) B (L.map (·.1)) = 2) (hE : betE who (S.ops.getD j oz) B = 0) (hW : wrE B (newP who (S.ops.getD j oz) B) (let' (S.ops.getD j oz) B) ≠ 0) : und S who S.ops.reverse n S.book [] = (wrE B (newP who (S.ops.getD j oz) B) (let' (S.ops.getD j oz) B), []) := by
  rw [← h.un, take_rev hj, und_wr hk, if_neg (by rw [hE]; simp), if_pos hW]
theorem Uz'.done (h : Uz' w wr M S who n j k vb B vL L) (hz : j = 0 ∨ k = 0) : und S who S.ops.reverse n S.book [] = (0, L.map (·.1)) := by
  rw [← h.un]
  rcases hz with rfl | rfl
  · rfl
  · exact und_none _ _ _ _ _
theorem Uz'.start {P : Nat → Prop} {E : Nat} {F : Nat → Prop} {vb : Value} (h1 : BookAt w' vb S.book) (hi : bookE S.book = 0) (hb : Below w.heap.size w w') (hlt : In (fun g => g < w.heap.size) vb) (hm : MkAt w.heap.size w' w.heap.size who (kn S who) (.slice none 0 0) []) : Uz' w w' w.heap.size S who n S.ops.length n vb S.book (.slice none 0 0) [] :=
  ⟨h1, hi, hlt.mono fun g hg => ⟨Nat.lt_of_lt_of_le hg hb.size, by omega, fun e => by cases e⟩, by simpa using hm, by rw [List.take_length]; rfl, hb, by simp⟩
end
end Bd
end Go.Proofs.YtnbnniapllkjlaaGreatDoor
