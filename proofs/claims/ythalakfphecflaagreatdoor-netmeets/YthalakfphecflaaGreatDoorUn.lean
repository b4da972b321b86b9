/- The plain mathematics of edits, further on: the book behind an insert. No program is named here. -/
import Derived.Test.YthalakfphecflaaGreatDoorUm
namespace Go.Proofs.YthalakfphecflaaGreatDoor
namespace Um
set_option linter.unusedVariables false
open Cm Om Hm
open Op (bytesLess)
open Bm (Leaf none0)

theorem let_at {t : ByteArray} (h : okText t = true) {k : Nat} (hk : k < t.size) : Bm.isL ((t.toList.getD k 0).toNat : Int) = true := by
  unfold okText at h
  rw [List.all_eq_true] at h
  have hk2 : k < t.toList.length := by rw [len_eq]; exact hk
  rw [List.getD_eq_getElem?_getD, List.getElem?_eq_getElem hk2]
  exact h _ (List.getElem_mem hk2)
theorem kn_le {S : Dq} (I : Inv S) {u : Int} (h1 : 1 ≤ u) (h8 : u ≤ 8) : 0 ≤ kn S u ∧ kn S u ≤ S.ops.length := by
  have h := I.kno u h1 h8
  have := List.length_filter_le (fun o : Ox => decide (o.1.1 = u)) S.ops
  omega
/- what is seen behind an insert -/
end Um
end Go.Proofs.YthalakfphecflaaGreatDoor
