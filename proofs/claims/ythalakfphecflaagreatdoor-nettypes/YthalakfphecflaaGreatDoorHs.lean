/- Package net: Under, isNode, Doc, Text, New. -/
import Derived.Test.YthalakfphecflaaGreatDoorHl
namespace Go.Proofs.YthalakfphecflaaGreatDoor
namespace Hs
set_option linter.unusedVariables false
set_option linter.unusedSimpArgs false
open Go.ChangeShapes Go.WideShapes Go.ChangeAt Go.RowKit Cm Ka Kb Na Om Oa Oz Oc Og Oi Hm Ia Ic Ie Ih Aa Hc Hd Hi Hl
open La (bel bel_drew errV_zero errV_ne own_ge own_grow own_below Lies)

/- is it a node? -/
theorem node_yes (X n i c : Nat) (p : Option Addr) (w : World) (c0 : w.cell? ⟨X, 0, none⟩ = some (.slice p n c)) (hn : n ≤ 4) (hi : i < n) : Calls Tryz.prog 37 #[ptr X, .int .i64 i] w fun e w' => e = .returned (.bool true) ∧ w' = w := by
  have h0 : (0 : Int) ≤ (i : Int) := by omega
  have h1 : (i : Int) < (n : Int) := by omega
  clear hi
  go_enter Tryz.func37, Tryz.ntmps37
  go_wp2_with fail
  go_ret
  exact ⟨rfl, rfl⟩
theorem node_no (X n c : Nat) (i : Int) (p : Option Addr) (w : World) (c0 : w.cell? ⟨X, 0, none⟩ = some (.slice p n c)) (hn : n ≤ 4) (hi : out n i) : Calls Tryz.prog 37 #[ptr X, .int .i64 i] w fun e w' => e = .returned (.bool false) ∧ w' = w := by
  by_cases h : i < 0
  · have h0 : ¬ (0 : Int) ≤ i := by omega
    clear hi h
    go_enter Tryz.func37, Tryz.ntmps37
    go_wp2_with fail
    go_ret
    exact ⟨rfl, rfl⟩
  · have h0 : (0 : Int) ≤ i := by omega
    have h1 : ¬ i < (n : Int) := by unfold out at hi; omega
    clear hi h
    go_enter Tryz.func37, Tryz.ntmps37
    go_wp2_with fail
    go_ret
    exact ⟨rfl, rfl⟩
theorem doc_no (X n c : Nat) (i : Int) (p : Option Addr) (w : World) (c0 : w.cell? ⟨X, 0, none⟩ = some (.slice p n c)) (hn : n ≤ 4) (hi : out n i) : Calls Tryz.prog 15 #[ptr X, .int .i64 i] w fun e w' => e = .returned (.tuple #[.pointer none, .iface 61 (.int .i64 1)]) ∧ w' = w := by
  have C := node_no X n c i p w c0 hn hi
  clear hi
  go_enter Tryz.func15, Tryz.ntmps15
  go_wp2_with fail
  refine C.mono ?_
  rintro e w' ⟨rfl, rfl⟩
  go_wp2_with fail
  go_ret2
  exact ⟨rfl, rfl⟩
theorem doc_yes (X n c g i D : Nat) (w : World) (c0 : w.cell? ⟨X, 0, none⟩ = some (.slice (some ⟨g, 0, none⟩) n c)) (hn : n ≤ 4) (hi : i < n) (c1 : w.cell? ⟨g, i, none⟩ = some (ptr D)) : Calls Tryz.prog 15 #[ptr X, .int .i64 i] w fun e w' => e = .returned (.tuple #[ptr D, .nilIface]) ∧ w' = w := by
  have C := node_yes X n i c _ w c0 hn hi
  have h0 : (0 : Int) ≤ (i : Int) := by omega
  have h1 : (i : Int) < (n : Int) := by omega
  have c2 : w.cell? ⟨g, 0 + i, none⟩ = some (ptr D) := by rw [Nat.zero_add]; exact c1
  go_enter Tryz.func15, Tryz.ntmps15
  go_wp2_with fail
  refine C.mono ?_
  rintro e w' ⟨rfl, rfl⟩
  go_wp2_with fail
  go_ret2
  exact ⟨rfl, rfl⟩
theorem doc_any (X : Nat) (N : Nt) (F : Nat → Prop) (i : Nat) (w : World) (h : At w X N F) (hi : i < N.ds.length) : Calls Tryz.prog 15 #[ptr X, .int .i64 i] w fun e w' => ∃ D Fd, e = .returned (.tuple #[ptr D, .nilIface]) ∧ DocAt w' D (dq N i) Fd ∧ (∀ g, Fd g → F g) ∧ Below w.heap.size w w' := by
  obtain ⟨vd, vu, E, Fd, m, hF⟩ := h
  obtain ⟨p, c, rfl, _, _, hc⟩ := m.cellD
  obtain ⟨g, rfl, hg⟩ := hc (by omega)
  refine (doc_yes X _ c g i (E i) w (blk_cell m.blk (i := 0) rfl) m.few hi (hg i hi)).mono ?_
  rintro e w' ⟨rfl, rfl⟩
  exact ⟨E i, Fd i, rfl, m.docs.at' i hi, fun g hg => (hF g).2 (Or.inr (Or.inr (Or.inr ⟨i, hi, hg⟩))), Below.refl _ _⟩
theorem text_any (X : Nat) (N : Nt) (F : Nat → Prop) (i : Int) (w : World) (h : At w X N F) (hgl : Gl N) : Calls Tryz.prog 11 #[ptr X, .int .i64 i] w fun e w' => e = .returned (.tuple #[.string (if out N.ds.length i then ⟨#[]⟩ else Lf.textR (dq N i.toNat).book), errV (if out N.ds.length i then 1 else 0)]) ∧ Below w.heap.size w w' := by
  by_cases ho : out N.ds.length i
  · rw [if_pos ho, if_pos ho, errV_ne (by decide)]
    obtain ⟨vd, vu, E, Fd, m, hF⟩ := h
    obtain ⟨p, c, rfl, _⟩ := m.cellD
    have C := doc_no X _ c i p w (blk_cell m.blk (i := 0) rfl) m.few ho
    clear m hF ho hgl
    go_enter Tryz.func11, Tryz.ntmps11
    go_wp2_with fail
    refine C.mono ?_
    rintro e w' ⟨rfl, rfl⟩
    go_wp2_with fail
    go_ret2
    exact ⟨rfl, Below.refl _ _⟩
  · rw [if_neg ho, if_neg ho, errV_zero]
    obtain ⟨k, rfl⟩ : ∃ k : Nat, i = k := ⟨i.toNat, by unfold out at ho; omega⟩
    have hk : k < N.ds.length := by unfold out at ho; omega
    rw [Int.toNat_natCast]
    have C := doc_any X N F k w h hk
    generalize dq N k = S at C ⊢
    clear h hgl ho hk
    go_enter Tryz.func11, Tryz.ntmps11
    go_wp2_with fail
    refine C.mono ?_
    rintro e w1 ⟨D, Fd, rfl, hd, _, hb⟩
    have HB := Hid.mk' hb
    have C2 := Il.text_get D S Fd w1 hd
    obtain ⟨T, hT⟩ : ∃ T, T = Lf.textR S.book := ⟨_, rfl⟩
    rw [← hT] at C2
    have HT := Hid.mk' hT
    clear hd hb C hT
    go_wp2_with fail
    refine C2.mono ?_
    rintro e w2 ⟨rfl, hb2⟩
    have HB2 := Hid.mk' (bel HB.out hb2)
    clear hb2 C2
    go_wp2_with fail
    go_ret2
    exact ⟨by rw [← HT.out]; rfl, HB2.out⟩

end Hs
end Go.Proofs.YthalakfphecflaaGreatDoor
