/- Package net: Under, isNode, Doc, Text, New. -/
import Derived.Test.YthalakfphecflaaGreatDoorHl
namespace Go.Proofs.YthalakfphecflaaGreatDoor
namespace Hs
set_option linter.unusedVariables false
set_option linter.unusedSimpArgs false
open Go.ChangeShapes Go.WideShapes Go.ChangeAt Go.RowKit Cm Ka Kb Na Om Oa Oz Oc Og Oi Hm Ia Ic Ie Ih Aa Hc Hd Hi Hl
open La (bel bel_drew errV_zero errV_ne own_ge own_grow own_below Lies)

theorem under_any (X : Nat) (N : Nt) (F : Nat → Prop) (w : World) (h : At w X N F) (hn : N.us.length ≤ 100) : Calls Tryz.prog 9 #[ptr X] w fun e w' => e = .returned (.int .i64 N.us.length) ∧ Below w.heap.size w w' := by
  obtain ⟨vd, vu, E, Fd, m, hF⟩ := h
  obtain ⟨p, c, rfl, _⟩ := m.cellU
  have c1 := blk_cell m.blk (i := 1) (u := .slice p N.us.length c) rfl
  generalize N.us.length = n at c1 hn ⊢
  clear m hF
  go_enter Tryz.func9, Tryz.ntmps9
  go_wp2_with fail
  go_ret
  exact ⟨rfl, Below.refl _ _⟩
/- is it a node? -/
theorem node_yes (X n i c : Nat) (p : Option Addr) (w : World) (c0 : w.cell? ⟨X, 0, none⟩ = some (.slice p n c)) (hn : n ≤ 4) (hi : i < n) : Calls Tryz.prog 37 #[ptr X, .int .i64 i] w fun e w' => e = .returned (.bool true) ∧ w' = w := by
  have h0 : (0 : Int) ≤ (i : Int) := by omega
  have h1 : (i : Int) < (n : Int) := by omega
  clear hi
  go_enter Tryz.func37, Tryz.ntmps37
  go_wp2_with fail
  go_ret
  exact ⟨rfl, rfl⟩
theorem node_no (X n c : Nat) (i : Int) (p : Option Addr) (w : World) (c0 : w.cell? ⟨X, 0, none⟩ = some (.slice p n c)) (hn : n ≤ 4) (hi : out n i) : Calls Tryz.prog 37 #[ptr X, .int .i64 i] w fun e w' => e = .returned (.bool false) ∧ w' = w := by
  by_cases h : i < 0
  · have h0 : ¬ (0 : Int) ≤ i := by omega
    clear hi h
    go_enter Tryz.func37, Tryz.ntmps37
    go_wp2_with fail
    go_ret
    exact ⟨rfl, rfl⟩
  · have h0 : (0 : Int) ≤ i := by omega
    have h1 : ¬ i < (n : Int) := by unfold out at hi; omega
    clear hi h
    go_enter Tryz.func37, Tryz.ntmps37
    go_wp2_with fail
    go_ret
    exact ⟨rfl, rfl⟩
theorem doc_no (X n c : Nat) (i : Int) (p : Option Addr) (w : World) (c0 : w.cell? ⟨X, 0, none⟩ = some (.slice p n c)) (hn : n ≤ 4) (hi : out n i) : Calls Tryz.prog 15 #[ptr X, .int .i64 i] w fun e w' => e = .returned (.tuple #[.pointer none, .iface 61 (.int .i64 1)]) ∧ w' = w := by
  have C := node_no X n c i p w c0 hn hi
  clear hi
  go_enter Tryz.func15, Tryz.ntmps15
  go_wp2_with fail
  refine C.mono ?_
  rintro e w' ⟨rfl, rfl⟩
  go_wp2_with fail
  go_ret2
  exact ⟨rfl, rfl⟩
theorem doc_yes (X n c g i D : Nat) (w : World) (c0 : w.cell? ⟨X, 0, none⟩ = some (.slice (some ⟨g, 0, none⟩) n c)) (hn : n ≤ 4) (hi : i < n) (c1 : w.cell? ⟨g, i, none⟩ = some (ptr D)) : Calls Tryz.prog 15 #[ptr X, .int .i64 i] w fun e w' => e = .returned (.tuple #[ptr D, .nilIface]) ∧ w' = w := by
  have C := node_yes X n i c _ w c0 hn hi
  have h0 : (0 : Int) ≤ (i : Int) := by omega
  have h1 : (i : Int) < (n : Int) := by omega
  have c2 : w.cell? ⟨g, 0 + i, none⟩ = some (ptr D) := by rw [Nat.zero_add]; exact c1
  go_enter Tryz.func15, Tryz.ntmps15
  go_wp2_with fail
  refine C.mono ?_
  rintro e w' ⟨rfl, rfl⟩
  go_wp2_with fail
  go_ret2
  exact ⟨rfl, rfl⟩
end Hs
end Go.Proofs.YthalakfphecflaaGreatDoor
