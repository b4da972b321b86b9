
import Derived.Test.YtnbnniapllkjlaaGreatDoorUsp
namespace Go.Proofs.YtnbnniapllkjlaaGreatDoor
namespace Bc
set_option linter.unusedVariables false
set_option linter.unusedSimpArgs false
open Go.ChangeShapes Go.WideShapes Go.ChangeAt Go.RowKit Cm Ka Kb Na Om Oa Oz Oc Og Oi Hm Ia Ib Ic Idc Ie If Ig Ih Ii Ij Ik Il Im Um Ua Ub Uc Ud Ue Uf Iq Aa Ac Xp
open La (bel bel_drew errV_zero errV_ne own_ge own_grow own_below Lies LeafsIn)
open Lj (BookAt BookNew)
open Xr (cell_set blk_grown)
open Usp
set_option maxRecDepth 100000 in
set_option maxHeartbeats 4000000 in
theorem add_chg (B M : Nat) (who n : Int) (v : Value) (L : List (Ox × Value)) (t : Int) (p : ByteArray) (c : Int) (vs : Value) (s : List Dt) (w : World) (h : MkAt B w M who n v L) (hvs : w.ownsRow B 30 2 vs s.length (flatD s)) (hB : B ≤ w.heap.size) (hn0 : 0 ≤ n) (hn1 : n ≤ 10000) (hL : L.length ≤ 1000) :
    Calls Tryz.prog 33 #[.pointer (some ⟨M, 0, none⟩), .agg #[.int .i64 0, .int .i64 0, .int .i64 t, .string p, .int .i64 c, vs]] w fun e w' => e = .returned (.tuple #[]) ∧ ∃ v', MkAt B w' M who (n + 1) v' (L ++ [(((who, n + 1), t, p, c, s), vs)]) ∧ Below B w w' ∧ (∀ g, g < w.heap.size → g ≠ M → v.ownBlock ≠ some g → w'.heap[g]? = w.heap[g]?) ∧ ∀ g, v'.ownBlock = some g → v.ownBlock = some g ∨ w.heap.size ≤ g := by
  obtain ⟨ps, ns, cs, rfl, _⟩ := own_shape hvs
  obtain ⟨po, no, co, rfl, HNO⟩ := own_shape h.row
  have HMK : Hid (MkAt B w M who n (.slice po no co) L) := h
  have HVS : Hid (w.ownsRow B 30 2 (.slice ps ns cs) s.length (flatD s)) := hvs
  have HBW : Hid (B ≤ w.heap.size) := hB
  have hML := h.lt
  have hMO : M ≠ w.heap.size := by omega
  have hOM : w.heap.size ≠ M := by omega
  have hno : no ≤ 1000 := by rw [HNO.out]; exact hL
  have hbA : Below w.heap.size w (w.alloc (.cells #[.int .i64 0, .int .i64 0, .int .i64 t, .string p, .int .i64 c, .slice ps ns cs] 33)) := (Below.refl _ _).alloc (Nat.le_refl _) _
  have hM1 := (h.below hbA).blk
  have hO1 : (w.alloc (.cells #[.int .i64 0, .int .i64 0, .int .i64 t, .string p, .int .i64 c, .slice ps ns cs] 33)).heap[w.heap.size]? = some (.cells #[.int .i64 0, .int .i64 0, .int .i64 t, .string p, .int .i64 c, .slice ps ns cs] 33) := heap_alloc_new w _
  have HM1 := Hid.mk' hM1
  have HO1 := Hid.mk' hO1
  have HBA := Hid.mk' hbA
  have a1 := blk_cell hM1 (i := 1) (u := .int .i64 n) rfl
  have f1 := blk_free hM1 (i := 1)
  have hwr : IntKind.i64.wrap (n + 1) = n + 1 := wrap_in (by omega) (by omega)
  clear hM1 hO1 hbA h hvs hB hL
  go_enter Tryz.func33, Tryz.ntmps33
  go_wp2_with fail
  generalize hw2 : World.alloc _ _ = w2
  have hzs : (w.setCell ⟨M, 1, none⟩ (.int .i64 (n + 1))).heap.size = w.heap.size := set_size _ _ _
  have hbS : Below w.heap.size (w.setCell ⟨M, 1, none⟩ (.int .i64 (n + 1))) w2 := by rw [← hw2]; exact (Below.refl _ _).alloc (by rw [hzs]; exact Nat.le_refl _) _
  have hM2 : w2.heap[M]? = some (.cells #[.int .i64 who, .int .i64 (n + 1), .slice po no co] 89) := by rw [hbS.block M hML, set_heap HMK.out.blk]; rfl
  have hO2 : w2.heap[w.heap.size]? = some (.cells #[.int .i64 0, .int .i64 0, .int .i64 t, .string p, .int .i64 c, .slice ps ns cs] 33) := by
    have h9 := heap_alloc_new (w.setCell ⟨M, 1, none⟩ (.int .i64 (n + 1))) (.cells #[.int .i64 0, .int .i64 0, .int .i64 t, .string p, .int .i64 c, .slice ps ns cs] 33)
    rw [hzs] at h9
    rw [← hw2]; exact h9
  have HOT : Hid (∀ g, g < w.heap.size → g ≠ M → w2.heap[g]? = w.heap[g]?) := fun g hg hne => by rw [hbS.block g hg, set_block _ _ _ _ hne]
  have HB2 : Hid (Below B w w2) := ((Below.refl B w).setCell (p := ⟨M, 1, none⟩) HMK.out.hM _).trans (hbS.mono HBW.out)
  have hz2 : w.heap.size < w2.heap.size := (Array.getElem?_eq_some_iff.1 hO2).1
  have HM2 := Hid.mk' hM2
  have HO2 := Hid.mk' hO2
  have b0 := blk_cell hM2 (i := 0) (u := .int .i64 who) rfl
  have b1 := blk_cell hM2 (i := 1) (u := .int .i64 (n + 1)) rfl
  have o0 : w2.drew.cell? ⟨w.heap.size, 0, none⟩ = some (.int .i64 0) := blk_cell hO2 (i := 0) rfl
  have o1 : w2.drew.cell? ⟨w.heap.size, 1, none⟩ = some (.int .i64 0) := blk_cell hO2 (i := 1) rfl
  have fo0 : w2.drew.frozen? ⟨w.heap.size, 0, none⟩ = false := blk_free hO2 (i := 0)
  have o1' : w2.cell? ⟨w.heap.size, 1, none⟩ = some (.int .i64 0) := blk_cell hO2 (i := 1) rfl
  have fo1' : w2.frozen? ⟨w.heap.size, 1, none⟩ = false := blk_free hO2 (i := 1)
  have fo1 : w2.drew.frozen? ⟨w.heap.size, 1, none⟩ = false := blk_free hO2 (i := 1)
  clear hw2 hM2 hO2 a1 f1 HM1 HO1 hbS hzs HBA
  go_region_held3 (fun W => W.cell? ⟨M, 0, none⟩ = some (.int .i64 who) ∧ W.cell? ⟨M, 1, none⟩ = some (.int .i64 (n + 1))) (first | (refine ⟨(cell_set hMO).trans ((cell_set hMO).trans ?_), (cell_set hMO).trans ((cell_set hMO).trans ?_)⟩ <;> (go_split_ands; assumption)) | (go_keep; done) | (refine ⟨?_, ?_⟩ <;> (rw [World.cell?_drew, cell_set hMO, cell_set hMO]; assumption))) (fail)
  generalize hw3 : World.drew _ = w3
  have hh3 : w3.heap = ((w2.setCell ⟨w.heap.size, 0, none⟩ (.int .i64 who)).setCell ⟨w.heap.size, 1, none⟩ (.int .i64 (n + 1))).heap := by rw [← hw3]; rfl
  have hM3 : w3.heap[M]? = some (.cells #[.int .i64 who, .int .i64 (n + 1), .slice po no co] 89) := by rw [hh3, set_block _ _ _ _ hMO, set_block _ _ _ _ hMO]; exact HM2.out
  have hO3 : w3.heap[w.heap.size]? = some (.cells #[.int .i64 who, .int .i64 (n + 1), .int .i64 t, .string p, .int .i64 c, .slice ps ns cs] 33) := by
    rw [hh3, set_heap (set_heap HO2.out)]; rfl
  have hoth : ∀ g, g < w.heap.size → g ≠ M → w3.heap[g]? = w.heap[g]? := fun g hg hne => by rw [hh3, set_block _ _ _ _ (by simp; omega), set_block _ _ _ _ (by simp; omega)]; exact HOT.out g hg hne
  have HMK3 : Hid (MkAt B w3 M who (n + 1) (.slice po no co) L) := mk_turn HMK.out hoth hM3
  have HVS3 : Hid (w3.ownsRow B 30 2 (.slice ps ns cs) s.length (flatD s)) := own_stay HVS.out fun g hg => by
    obtain ⟨hlt, cur, hc⟩ := own_lt HVS.out g hg
    exact hoth g hlt (blk_ne hc HMK.out.blk (by decide))
  have HB3 : Hid (Below B w w3) := by
    unfold Hid; rw [← hw3]
    exact ((HB2.out.setCell (p := ⟨w.heap.size, 0, none⟩) HBW.out _).setCell (p := ⟨w.heap.size, 1, none⟩) HBW.out _).drew
  have HS3 : Hid (Six w3 w.heap.size who (n + 1) t p c (.slice ps ns cs)) := ⟨blk_cell hO3 (i := 0) rfl, blk_cell hO3 (i := 1) rfl, blk_cell hO3 (i := 2) rfl, blk_cell hO3 (i := 3) rfl, blk_cell hO3 (i := 4) rfl, blk_cell hO3 (i := 5) rfl⟩
  have HOTH := Hid.mk' hoth
  have HSZ3 : Hid (w.heap.size ≤ w3.heap.size) := HB3.out.size
  clear hw3 hh3 hM3 hO3 hoth b0 b1 o0 o1 fo0 fo1 o1' fo1' HM2 HO2 HOT HMK HVS
  have HBB : Hid (∀ O, Below w3.heap.size w3 (w3.alloc O).drew) := fun O => ((Below.refl _ w3).alloc (Nat.le_refl _) O).drew
  have HOA : Hid (∀ O, (w3.alloc O).drew.ownsRow 0 33 6 (.slice po no co) no (flatO L)) := fun O => own_below (by have h9 := HMK3.out.row; rw [← HNO.out] at h9; exact h9) (HBB.out O)
  have HEN : Hid (∀ O, (w3.alloc O).drew.heap[M]? = some (.cells #[.int .i64 who, .int .i64 (n + 1), .slice po no co] 89)) := fun O => (HMK3.out.below (HBB.out O)).blk
  have q8 := fun O => blk_cell (HEN.out O) (i := 2) (u := .slice po no co) rfl
  have q7 : ∀ O, (w3.alloc O).cell? ⟨M, 2, none⟩ = some (.slice po no co) := q8
  have HDNE : Hid (∀ g, (Value.slice po no co).ownBlock = some g → g = M → False) := fun g hg e => by
    obtain ⟨_, cur2, hc⟩ := own_lt HMK3.out.row g hg
    exact blk_ne hc HMK3.out.blk (by decide) e
  have z3 := blk_cell HMK3.out.blk (i := 2) (u := .slice po no co) rfl
  obtain ⟨s0, s1, s2, s3, s4, s5⟩ := HS3.out
  go_wp2_with fail
  go_region_law (
    (refine step_putO (by rfl) (.tmp 25) (.tmp 27) (by rfl) (.slice po no co) no L ((who, n + 1), t, p, c, s) ps ns cs (by rfl) w3.heap.size (by rfl) (by omega) (HOA.out _) (heap_alloc_new w3 _) ?_; intro v9 w9 hr9 hg9 hl9; obtain ⟨p9, n9, c9, rfl, _⟩ := own_shape hr9; have hbk9 := (blk_grown (HEN.out _) hg9 (fun e => HDNE.out M e rfl)); have q9 := blk_cell hbk9 (i := 2) (u := .slice po no co) rfl; have fq9 := blk_free hbk9 (i := 2); have HR9 := Hid.mk' hr9; have HG9 := Hid.mk' hg9; have HL9 := Hid.mk' hl9; clear hr9 hg9 hl9 hbk9))
  all_goals
    have HP := Hid.mk' (mk_put (x := ((who, n + 1), t, p, c, s)) HMK3.out (HBB.out _) HVS3.out HG9.out (by have h9 := HR9.out; rw [HNO.out] at h9; exact h9) HL9.out (Nat.le_trans HBW.out HB3.out.size))
    have HZ : Hid (∀ g, g < w.heap.size → g ≠ M → (Value.slice po no co).ownBlock ≠ some g → (w9.setCell ⟨M, 2, none⟩ (.slice p9 n9 c9)).heap[g]? = w.heap[g]?) := fun g hg hne ho => by
      have hl3 : g < w3.heap.size := Nat.lt_of_lt_of_le hg HSZ3.out
      rw [set_block _ _ _ _ hne, HG9.out.block g (Nat.lt_of_lt_of_le hl3 (HBB.out _).size) (fun e => ho e.symm), (HBB.out _).block g hl3]
      exact HOTH.out g hg hne
    have HZ2 : Hid (∀ g, (Value.slice p9 n9 c9).ownBlock = some g → (Value.slice po no co).ownBlock = some g ∨ w.heap.size ≤ g) := fun g hg => by
      rcases HL9.out with e | e
      · exact Or.inl (e.symm.trans hg)
      · rw [hg] at e; injection e with e; exact Or.inr (by rw [e]; exact Nat.le_trans HSZ3.out (HBB.out _).size)
    clear HR9 HG9 HL9
    go_wp2_with fail
    go_end0
    exact ⟨rfl, _, HP.out.1, HB3.out.trans HP.out.2, HZ.out, HZ2.out⟩
end Bc
end Go.Proofs.YtnbnniapllkjlaaGreatDoor
