import Derived.Test.YtnbnniapllkjlaaGreatDoorJ9
import Derived.Test.YtnbnniapllkjlaaGreatDoorP1
namespace Go.Proofs.YtnbnniapllkjlaaGreatDoor
namespace Um
set_option linter.unusedVariables false
open Cm Om Hm
open Op (bytesLess)
open Bm (Leaf none0)
theorem chk_ne {p : List UInt8} (h : Pm.chk p = 0) : p ≠ [] := by
  intro e; have := (Bm.chk_pos h).1; rw [e] at this; simp at this
def stepP (a b : ByteArray) (who : Int) : ByteArray := ⟨(Pm.betText a.toList b.toList who).toArray⟩
structure Stp (a b : ByteArray) (who : Int) : Prop where
  chk : Pm.chk (stepP a b who).toList = 0
  up : bytesLess a.toList (stepP a b who).toList = true
  down : b.toList = [] ∨ bytesLess (stepP a b who).toList b.toList = true
  whose : Pm.whoOf (stepP a b who).toList = who
theorem step_ok {a b : ByteArray} {who : Int} (h : Pm.betErr a.toList b.toList who = 0) : Stp a b who := by
  obtain ⟨t, m, e, _, _, hm, _⟩ := Pm.made_of h
  have el : (stepP a b who).toList = t ++ [UInt8.ofNat (97 + who.toNat)] := by unfold stepP; rw [toList_mk, e]
  refine ⟨by rw [el]; exact Pm.chk_made hm, ?_, ?_, by rw [el]; exact Pm.whoOf_made t who hm.who1 hm.who8⟩
  · have := Pm.above_made hm [UInt8.ofNat (97 + who.toNat)]
    rw [Bool.or_eq_false_iff, beq_eq_false_iff_ne] at this
    rw [el]; exact Bm.less_total this.1 this.2
  · cases hb : b.toList with
    | nil => exact Or.inl rfl
    | cons c r =>
      right
      have := Pm.below_made hm [UInt8.ofNat (97 + who.toNat)] (by rw [hb]; rfl)
      rw [el, ← hb]; exact this
end Um
end Go.Proofs.YtnbnniapllkjlaaGreatDoor
namespace Go.Proofs.YtnbnniapllkjlaaGreatDoor
namespace Um
set_option linter.unusedVariables false
open Cm Om Hm
open Op (bytesLess)
open Bm (Leaf none0)
theorem kn_le {S : Dq} (I : Inv S) {u : Int} (h1 : 1 ≤ u) (h8 : u ≤ 8) : 0 ≤ kn S u ∧ kn S u ≤ S.ops.length := by
  have h := I.kno u h1 h8
  have := List.length_filter_le (fun o : Ox => decide (o.1.1 = u)) S.ops
  omega
end Um
end Go.Proofs.YtnbnniapllkjlaaGreatDoor
