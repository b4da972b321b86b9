/- Small words for package dot's walks: an error of package api as a value, a list of ints that lies in memory. -/
import Derived.Test.YtllcmfbkingfdaaGreatDoorRows
import Derived.Test.YtllcmfbkingfdaaGreatDoorDe
import Derived.WalkKit
import Derived.WalkLawsBesides
import Derived.WalkSpells
import Derived.ProofKit
import Derived.OpenShut
import Derived.OwnWalk
namespace Go.Proofs.YtllcmfbkingfdaaGreatDoor
namespace Za
set_option linter.unusedVariables false
open Go.ChangeShapes Go.WideShapes Go.ChangeAt Go.RowKit

theorem ret_bool {a b : Bool} (h : a = b) : Ending.returned (.bool a) = .returned (.bool b) := by rw [h]
theorem ret_int {k : IntKind} {a b : Int} (h : a = b) : Ending.returned (.int k a) = .returned (.int k b) := by rw [h]
/- an error of package api: nil for 0 -/
def errV (n : Int) : Value := if n = 0 then .nilIface else .iface 47 (.int .i64 n)
theorem errV_zero : errV 0 = .nilIface := rfl
theorem errV_ne {n : Int} (h : n ≠ 0) : errV n = .iface 47 (.int .i64 n) := by unfold errV; rw [if_neg h]
theorem bel {w w1 w2 : World} (h1 : Below w.heap.size w w1) (h2 : Below w1.heap.size w1 w2) : Below w.heap.size w w2 :=
  h1.trans (h2.mono h1.size)

theorem bel_drew {B : Nat} {a w : World} (h : Below B a w) (q : Nat) : Below B a (w.drewN q) := ⟨h.os, h.tape, h.output, h.size, h.block⟩

/- a list of ints that lies in memory -/
def IntsIn (w : World) (p : Option Addr) (l : List Int) : Prop :=
  l = [] ∨ ∃ b o, p = some ⟨b, o, none⟩ ∧ ∀ j, j < l.length → w.cell? ⟨b, o + j, none⟩ = some (.int .i64 (l.getD j 0))
theorem IntsIn.below {w w' : World} {p : Option Addr} {l : List Int} (h : IntsIn w p l) (hb : Below w.heap.size w w') : IntsIn w' p l := by
  rcases h with h | ⟨b, o, hp, hc⟩
  · exact Or.inl h
  · refine Or.inr ⟨b, o, hp, fun j hj => ?_⟩
    have h1 := hc j hj
    rw [hb.cell (p := ⟨b, o + j, none⟩) (World.block_lt_of_cell? _ _ h1)]
    exact h1
/- one of them is written -/
theorem set_cells {w : World} {g o i : Nat} {l : List Int} {x : Int} (hi : i < l.length) (hc : ∀ j, j < l.length → w.cell? ⟨g, o + j, none⟩ = some (.int .i64 (l.getD j 0))) :
    ∀ j, j < (l.set i x).length → (w.setCell ⟨g, o + i, none⟩ (.int .i64 x)).cell? ⟨g, o + j, none⟩ = some (.int .i64 ((l.set i x).getD j 0)) := by
  intro j hj
  rw [List.length_set] at hj
  by_cases h : j = i
  · subst h
    rw [World.cell?_setCell_same _ _ _ (hc j hj), List.getD_eq_getElem?_getD, List.getElem?_set_self hj]; rfl
  · rw [World.cell?_setCell_other _ _ _ _ (by intro e; injection e; omega), hc j hj, List.getD_eq_getElem?_getD, List.getD_eq_getElem?_getD, List.getElem?_set_ne (by omega)]
theorem IntsIn.nil (w : World) (p : Option Addr) : IntsIn w p [] := Or.inl rfl
theorem IntsIn.some {w : World} {p : Option Addr} {l : List Int} (h : IntsIn w p l) (hl : l ≠ []) : ∃ b o, p = some ⟨b, o, none⟩ ∧ ∀ j, j < l.length → w.cell? ⟨b, o + j, none⟩ = some (.int .i64 (l.getD j 0)) := by
  rcases h with h | h
  · exact absurd h hl
  · exact h

theorem infoInt : (Tryz.prog.info? 3).map (fun i => (i.zero, i.size, i.bytes)) = some (some (.int .i64 0), 1, 8) := by kernel_rfl
theorem infoString : (Tryz.prog.info? 9).map (fun i => (i.zero, i.size, i.bytes)) = some (some (.string ByteArray.empty), 1, 16) := by kernel_rfl

end Za
end Go.Proofs.YtllcmfbkingfdaaGreatDoor
