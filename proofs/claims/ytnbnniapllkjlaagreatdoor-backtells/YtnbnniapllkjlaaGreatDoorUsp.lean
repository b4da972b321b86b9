
import Derived.Test.YtnbnniapllkjlaaGreatDoorU2
import Derived.Test.YtnbnniapllkjlaaGreatDoorXr
import Derived.Test.YtnbnniapllkjlaaGreatDoorAc
import Derived.Deep.RegionLaw
import Derived.Deep.RegionHeld3
namespace Go.Proofs.YtnbnniapllkjlaaGreatDoor
namespace Usp
set_option linter.unusedVariables false
set_option linter.unusedSimpArgs false
open Go.ChangeShapes Go.WideShapes Go.ChangeAt Go.RowKit Cm Ka Kb Na Om Oa Oz Oc Og Oi Hm Ia Ib Ic Idc Ie If Ig Ih Ii Ij Ik Il Im Um Ua Ub Uc Ud Ue Uf Iq Aa Ac Xp
open La (bel bel_drew errV_zero errV_ne own_ge own_grow own_below Lies LeafsIn)
open Lj (BookAt BookNew)
open Xr (cell_set blk_grown)
structure MkAt (B : Nat) (w : World) (M : Nat) (who n : Int) (v : Value) (L : List (Ox × Value)) : Prop where
  blk : w.heap[M]? = some (.cells #[.int .i64 who, .int .i64 n, v] 89)
  row : w.ownsRow 0 33 6 v L.length (flatO L)
  loc : ∀ g, v.ownBlock = some g → B ≤ g
  seen : ∀ y ∈ L, w.ownsRow B 30 2 y.2 y.1.2.2.2.2.length (flatD y.1.2.2.2.2)
  hM : B ≤ M
theorem mk_turn {B : Nat} {w w' : World} {M : Nat} {who n n' : Int} {v : Value} {L : List (Ox × Value)} (h : MkAt B w M who n v L) (hs : ∀ g, g < w.heap.size → g ≠ M → w'.heap[g]? = w.heap[g]?) (hM : w'.heap[M]? = some (.cells #[.int .i64 who, .int .i64 n', v] 89)) : MkAt B w' M who n' v L := by
  refine ⟨hM, own_stay h.row fun g hg => ?_, h.loc, fun y hy => own_stay (h.seen y hy) fun g hg => ?_, h.hM⟩
  · obtain ⟨hl, cur, hc⟩ := own_lt h.row g hg
    exact hs g hl (blk_ne hc h.blk (by decide))
  · obtain ⟨hl, cur, hc⟩ := own_lt (h.seen y hy) g hg
    exact hs g hl (blk_ne hc h.blk (by decide))
theorem MkAt.below {B : Nat} {w w' : World} {M : Nat} {who n : Int} {v : Value} {L : List (Ox × Value)} (h : MkAt B w M who n v L) (hb : Below w.heap.size w w') : MkAt B w' M who n v L :=
  mk_turn h (fun g hg _ => hb.block g hg) (by rw [hb.block M (Array.getElem?_eq_some_iff.1 h.blk).1]; exact h.blk)
theorem MkAt.lt {B : Nat} {w : World} {M : Nat} {who n : Int} {v : Value} {L : List (Ox × Value)} (h : MkAt B w M who n v L) : M < w.heap.size := (Array.getElem?_eq_some_iff.1 h.blk).1
theorem MkAt.ops {B : Nat} {w : World} {M : Nat} {who n : Int} {v : Value} {L : List (Ox × Value)} (h : MkAt B w M who n v L) : OpsAt w v (L.map (·.1)) := own_ops h.row fun y hy => own_dts (h.seen y hy)
theorem MkAt.rowB {B : Nat} {w : World} {M : Nat} {who n : Int} {v : Value} {L : List (Ox × Value)} (h : MkAt B w M who n v L) : RowL B w v L := by
  refine ⟨h.row.1, ?_⟩
  rcases h.row.2 with h0 | ⟨g, cap, cur, h1, h2, h3⟩
  · exact Or.inl h0
  · exact Or.inr ⟨g, cap, cur, h1, h.loc g (by rw [h1]; rfl), h3⟩
theorem own_isin {B : Nat} {w : World} {t : TypeId} {z : Nat} {v : Value} {n : Nat} {xs : List Value} (h : w.ownsRow B t z v n xs) : In (New B w) v := fun a m c e _ => ⟨(h.lt a.block (by rw [e]; rfl)).1, (h.lt a.block (by rw [e]; rfl)).2⟩
theorem MkAt.opsJ {B : Nat} {w : World} {M : Nat} {who n : Int} {v : Value} {L : List (Ox × Value)} (h : MkAt B w M who n v L) : OpsJ (New B w) (New B w) w v (L.map (·.1)) := OpsJ.own h.rowB fun y hy => ⟨own_dts (h.seen y hy), own_isin (h.seen y hy)⟩
theorem mk_put {B : Nat} {w W w9 : World} {M : Nat} {who n : Int} {v v9 : Value} {L : List (Ox × Value)} {x : Ox} {vs : Value} (h : MkAt B w M who n v L) (hb : Below w.heap.size w W) (hvs : w.ownsRow B 30 2 vs x.2.2.2.2.length (flatD x.2.2.2.2)) (hg : W.grownBy w9 v.ownBlock) (hr : w9.ownsRow 0 33 6 v9 (L.length + 1) (flatO (L ++ [(x, vs)]))) (hl : v9.ownBlock = v.ownBlock ∨ v9.ownBlock = some W.heap.size) (hB : B ≤ w.heap.size) :
    MkAt B (w9.setCell ⟨M, 2, none⟩ v9) M who n v9 (L ++ [(x, vs)]) ∧ Below B w (w9.setCell ⟨M, 2, none⟩ v9) := by
  have h1 := h.below hb
  have hrow := own_lt h1.row
  have hne : ∀ g, v.ownBlock = some g → g ≠ M := fun g hgg => by obtain ⟨_, cur, hc⟩ := hrow g hgg; exact blk_ne hc h1.blk (by decide)
  have hbk : w9.heap[M]? = some (.cells #[.int .i64 who, .int .i64 n, v] 89) := by
    rw [hg.block _ h1.lt (fun e => hne M e.symm rfl)]; exact h1.blk
  have hne9 : ∀ g, v9.ownBlock = some g → g ≠ M := fun g hgg => by obtain ⟨_, cur, hc⟩ := own_lt hr g hgg; exact blk_ne hc hbk (by decide)
  have hseen : ∀ (u : Value) (xs : List Dt), w.ownsRow B 30 2 u xs.length (flatD xs) → (w9.setCell ⟨M, 2, none⟩ v9).ownsRow B 30 2 u xs.length (flatD xs) := fun u xs ho => by
    refine own_stay (own_below ho hb) fun g hgg => ?_
    obtain ⟨hlt, cur, hc⟩ := own_lt (own_below ho hb) g hgg
    rw [set_block _ _ _ _ (blk_ne hc h1.blk (by decide))]
    refine hg.block g hlt fun e => ?_
    obtain ⟨_, cur2, hc2⟩ := hrow g e.symm
    exact blk_ne hc hc2 (by decide) rfl
  refine ⟨⟨?_, ?_, fun g hgg => ?_, fun y hy => ?_, h.hM⟩, ?_⟩
  · rw [set_heap hbk]; rfl
  · rw [List.length_append]
    exact own_stay hr fun g hgg => set_block _ _ _ _ (hne9 g hgg)
  · rcases hl with e | e
    · exact h.loc g (e ▸ hgg)
    · rw [hgg] at e; injection e with e; rw [e]; exact Nat.le_trans hB hb.size
  · rcases List.mem_append.1 hy with q | q
    · exact hseen _ _ (h.seen y q)
    · rw [List.mem_singleton.1 q]; exact hseen _ _ hvs
  · have hb9 : Below B w w9 := (hb.mono hB).trans ⟨hg.os, hg.tape, hg.output, hg.size, fun g hgl => hg.block g (Nat.lt_of_lt_of_le hgl (Nat.le_trans hB hb.size)) (fun e => by have := h.loc g e.symm; omega)⟩
    exact hb9.setCell (p := ⟨M, 2, none⟩) h.hM _
end Usp
end Go.Proofs.YtnbnniapllkjlaaGreatDoor
