
import Derived.Test.YtnbnniapllkjlaaGreatDoorA0
import Derived.Test.YtnbnniapllkjlaaGreatDoorXp
import Derived.Test.YtnbnniapllkjlaaGreatDoorJ14
namespace Go.Proofs.YtnbnniapllkjlaaGreatDoor
namespace Xt
set_option linter.unusedVariables false
set_option linter.unusedSimpArgs false
open Go.ChangeShapes Go.WideShapes Go.ChangeAt Go.RowKit Cm Ka Kb Na Om Oa Oz Oc Og Oi Hm Ia Ib Ic Idc Ie If Ig Ih Ii Ij Ik Il Im Iq Xp
open La (bel bel_drew errV_zero errV_ne own_ge own_grow own_below Lies)
open Lj (BookAt BookNew)
structure Parts (w : World) (E : Nat) (S : Dq) (pb : Option Addr) (nb cb : Nat) (pm : Option Addr) (nm cm gk : Nat) (po : Option Addr) (no co : Nat) : Prop where
  c0 : ∀ W, Below w.heap.size w W → W.cell? ⟨E, 0, none⟩ = some (.slice pb nb cb)
  c1 : ∀ W, Below w.heap.size w W → W.cell? ⟨E, 1, none⟩ = some (.slice pm nm cm)
  c2 : ∀ W, Below w.heap.size w W → W.cell? ⟨E, 2, none⟩ = some (.slice (some ⟨gk, 0, none⟩) 8 8)
  c3 : ∀ W, Below w.heap.size w W → W.cell? ⟨E, 3, none⟩ = some (.slice po no co)
  book : ∀ W, Below w.heap.size w W → BookAt W (.slice pb nb cb) S.book
  marks : ∀ W, Below w.heap.size w W → MksAt W (.slice pm nm cm) S.marks
  known : ∀ W, Below w.heap.size w W → Za.IntsIn W (some ⟨gk, 0, none⟩) S.known
  ops : ∀ W, Below w.heap.size w W → OpsAt W (.slice po no co) S.ops
theorem RefAt.parts {B : Nat → Prop} {w : World} {E : Nat} {S : Dq} {F : Nat → Prop} (h : RefAt B w E S F) : ∃ pb nb cb pm nm cm gk po no co, Parts w E S pb nb cb pm nm cm gk po no co := by
  obtain ⟨I, gk, vb, vm, vo, hm⟩ := h
  obtain ⟨po, no, co, hvo⟩ : ∃ p n c, vo = .slice p n c := by obtain ⟨L, _, e, _⟩ := hm.ops; obtain ⟨p, n, c, e2, _⟩ := own_shape e; exact ⟨p, n, c, e2⟩
  obtain ⟨pb, nb, cb, hvb⟩ : ∃ p n c, vb = .slice p n c := by obtain ⟨p, c, e, _⟩ := hm.book; exact ⟨_, _, _, e⟩
  obtain ⟨pm, nm, cm, hvm⟩ : ∃ p n c, vm = .slice p n c := by obtain ⟨p, c, e, _⟩ := hm.marks; exact ⟨_, _, _, e⟩
  subst hvo hvb hvm
  refine ⟨pb, nb, cb, pm, nm, cm, gk, po, no, co, fun W hb => blk_cell (hm.below hb).blk rfl, fun W hb => blk_cell (hm.below hb).blk rfl, fun W hb => blk_cell (hm.below hb).blk rfl, fun W hb => blk_cell (hm.below hb).blk rfl, fun W hb => (hm.below hb).book, fun W hb => (hm.below hb).marks, fun W hb => ?_, fun W hb => (hm.below hb).ops.at⟩
  obtain ⟨cur, k1, k2⟩ := (hm.below hb).kn
  refine Or.inr ⟨gk, 0, rfl, fun j hj => ?_⟩
  rw [Nat.zero_add]
  refine blk_cell k1 ?_
  rw [← Array.getElem?_toList, k2, List.getElem?_map, List.getElem?_eq_getElem hj, List.getD_eq_getElem?_getD, List.getElem?_eq_getElem hj]; rfl
end Xt
end Go.Proofs.YtnbnniapllkjlaaGreatDoor
