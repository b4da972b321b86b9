/- Package edit: placeAt, Split, Fuse. -/
import Derived.Test.YtcmoajlcmeimiacGreatDoorUe
namespace Go.Proofs.YtcmoajlcmeimiacGreatDoor
namespace Uf
set_option linter.unusedVariables false
open Go.ChangeShapes Go.WideShapes Go.ChangeAt Go.RowKit Cm Ka Kb Na Om Oa Oz Oc Og Oi Hm Ia Ib Ic Idc Ie If Ig Ih Ii Ij Ik Il Im Um Ua Ub Uc Ud Ue
open La (bel bel_drew errV_zero errV_ne own_ge own_grow own_below Lies LeafsIn)
open Lj (BookAt BookNew)

def atV (S : Dq) (who off : Int) : ByteArray := if atE S who off = 0 then atP S off else ⟨#[]⟩
theorem atE_zero {S : Dq} {who off : Int} : atE S who off = 0 ↔ (1 ≤ who ∧ who ≤ 8) ∧ 0 ≤ off ∧ off < (seenP S.book).length := by
  unfold atE
  cases hw : Pm.isWho who with
  | false => rw [if_pos rfl]; have := isWho_no.1 hw; omega
  | true =>
    have := isWho_iff.1 hw
    rw [if_neg (by simp)]
    by_cases h : off < 0 ∨ ((seenP S.book).length : Int) ≤ off
    · rw [if_pos h]; omega
    · rw [if_neg h]; omega
theorem atE_cases (S : Dq) (who off : Int) : atE S who off = 0 ∨ atE S who off = 1 := by
  unfold atE
  split
  · exact Or.inr rfl
  · split
    · exact Or.inr rfl
    · exact Or.inl rfl
theorem at_chk {S : Dq} {who off : Int} (I : Inv S) (h : atE S who off = 0) : Pm.chk (atP S off).toList = 0 ∧ atP S off ∈ seenP S.book := by
  obtain ⟨_, h0, h1⟩ := atE_zero.1 h
  have hl : off.toNat < (seenP S.book).length := by omega
  have hm : atP S off ∈ seenP S.book := by
    unfold atP; rw [List.getD_eq_getElem?_getD, List.getElem?_eq_getElem hl]; exact List.getElem_mem hl
  obtain ⟨x, hx, _, e⟩ := seenP_mem hm
  obtain ⟨_, hlf, _⟩ := Bm.bookE_zero.1 I.book
  exact ⟨by rw [← e]; exact (Bm.leafE_zero.1 (hlf x hx)).1, hm⟩
/- a row of one op, just laid -/
theorem ops_one {B : Nat} (w : World) (x : Ox) (v : Value) (hB : B ≤ w.heap.size) (hv : w.ownsRow B 41 2 v x.2.2.2.2.length (flatD x.2.2.2.2)) :
    OpsNew B (w.alloc (.cells #[.int .i64 x.1.1, .int .i64 x.1.2, .int .i64 x.2.1, .string x.2.2.1, .int .i64 x.2.2.2.1, v] 44)) (.slice (some ⟨w.heap.size, 0, none⟩) 1 1) [x] := by
  refine ⟨w.heap.size, [(x, v)], rfl, hB, rfl, ⟨_, heap_alloc_new w _, rfl, rfl⟩, by simp, fun y hy => ?_⟩
  rw [List.mem_singleton.1 hy]
  exact own_below hv ((Below.refl _ _).alloc (Nat.le_refl _) _)

end Uf
end Go.Proofs.YtcmoajlcmeimiacGreatDoor
