import Derived.Test.YtjcemlmlfoilmaaGreatDoorGy
set_option linter.unusedSimpArgs false
set_option linter.unusedVariables false
set_option maxRecDepth 100000
set_option maxHeartbeats 8000000
namespace Go.Proofs.YtjcemlmlfoilmaaGreatDoor
namespace Gz
open Go.RowKit Oz Oi Ia Ic Hc Hd Gp
open La (bel aC own_below)
theorem aCE(X : Nat)(vd vu : Value)(N : Nt)(E : Nat → Nat)(Fd : Nat → Nat → Prop)(F : Nat → Prop)(i : Nat)(b c : Int)(w : World)(m : NAt w X vd vu N E Fd)(hF : ∀ g, F g ↔ Fs X vd vu N.ds.length Fd g)(hu : N.us.length < 100)(hi : i < N.us.length) :
  Calls Tryz.prog 7 #[ptr X, evV (6, i, b, c)] w fun r w' => r = .returned (.int .i64 0) ∧ Left' w X F { N with us := N.us ++ [N.us.getD i pz] } w' := by
 obtain ⟨pu, cu, evu, _, _, hc⟩ := m.fJ
 obtain ⟨g, rfl, hg⟩ := hc (by omega)
 obtain⟨u,hun⟩:=zx N.us.length
 have HSZ : Hid ((N.us.getD i pz).2.size ≤ maxLen) := by
  rw [Hid, qA, qB hi]
  exact m.sz _ (jF hi)
 have HC : Hid (∀ W, Below w.heap.size w W → W.cell? ⟨X, 1, none⟩ = some (.slice (some ⟨g, 0, none⟩) u cu) ∧ W.cell? ⟨g, i * 2, none⟩ = some (.int .i64 (N.us.getD i pz).1) ∧ W.cell? ⟨g, i * 2 + 1, none⟩ = some (.string (N.us.getD i pz).2)) := fun W hb => by
  refine ⟨aA hb ?_, aA hb (hg i hi).1, aA hb (hg i hi).2⟩
  have h9 := aB m.blk (i := 1) (u := vu) rfl
  rw [h9, evu, hun]
 generalize N.us.getD i pz = q at HC HSZ ⊢
 rw [← hun] at hu hi
 have z1 : decide ((i : Int) < 0) = false := by simp
 have z2 : decide ((u : Int) ≤ (i : Int)) = false := by simp; omega
 have z5 : ¬ (u : Int) ≤ (i : Int) := by omega
 have z7 : (i : Int) < (u : Int) := by omega
 have z9 : (0 : Int) ≤ (i : Int) := by omega
 have huz : ¬ (100 : Int) ≤ (u : Int) := by omega
 have HM := Hid.mk' m
 have HFF := Hid.mk' hF
 have HUN := Hid.mk' hun
 have HVU := Hid.mk' evu
 have hB0 : Below w.heap.size w (w.alloc (.cells #[.int .i64 6, .int .i64 i, .int .i64 b, .int .i64 c] 33)) := (qD _ _).alloc (qC _) _
 have hA0 := heap_alloc_new w (.cells #[.int .i64 6, .int .i64 i, .int .i64 b, .int .i64 c] 33)
 clear m hF hun evu hc hg
 go_in
 go_upto_region 1 with fail
 generalize w.alloc (.cells #[.int .i64 6, .int .i64 i, .int .i64 b, .int .i64 c] 33) = w0 at hB0 hA0 ⊢
 have HB0 := Hid.mk' hB0
 have HY : Hid (∀ W, Below w0.heap.size w0 W → W.cell? ⟨w.heap.size, 0, none⟩ = some (.int .i64 6) ∧ W.cell? ⟨w.heap.size, 1, none⟩ = some (.int .i64 i)) := fun W hb => ⟨aA hb (aB hA0 (i := 0) rfl), aA hb (aB hA0 (i := 1) rfl)⟩
 obtain ⟨y0, y1⟩ := HY.out w0 (qD _ _)
 obtain ⟨x1, x2, x3⟩ := HC.out w0 hB0
 clear hB0 hA0
 go_wp2_with fail
 go_quiet (fail)
 generalize hwq : World.drewN _ _ = w1
 have HB1 : Hid (Below w.heap.size w w1) := by rw [← hwq]; exact La.aC HB0.out _
 have HR1 : Hid (Below w0.heap.size w0 w1) := by rw [← hwq]; exact La.aC (qD _ _) _
 clear hwq y0 y1 x1 x2 x3
 obtain ⟨y0, y1⟩ := HY.out w1 HR1.out
 obtain ⟨x1, x2, x3⟩ := HC.out w1 HB1.out
 have HA : Hid (∀ O, Below w1.heap.size w1 (w1.alloc O)) := fun O => (qD _ w1).alloc (qC _) O
 have d1 : ∀ O, (w1.alloc O).cell? ⟨X, 1, none⟩ = some (.slice (some ⟨g, 0, none⟩) u cu) := fun O => aA (HA.out O) x1
 have d2 : ∀ O, (w1.alloc O).cell? ⟨g, i * 2, none⟩ = some (.int .i64 q.1) := fun O => aA (HA.out O) x2
 have d3 : ∀ O, (w1.alloc O).cell? ⟨g, i * 2 + 1, none⟩ = some (.string q.2) := fun O => aA (HA.out O) x3
 have d4 : ∀ O, (w1.alloc O).cell? ⟨w.heap.size, 1, none⟩ = some (.int .i64 i) := fun O => aA (HA.out O) y1
 go_wp2_with fail
 go_region_law (fail)
 all_goals
  generalize hw2 : (w1.alloc (.cells #[.int .i64 q.1, .string q.2] 70)).drew = w2
  have hR : Below w1.heap.size w1 w2 := by rw [← hw2]; exact (HA.out _).drew
  have hbx : w2.heap[w1.heap.size]? = some (.cells #[.int .i64 q.1, .string q.2] 70) := by rw [← hw2]; exact heap_alloc_new w1 _
  have HBW : Hid (Below w.heap.size w w2) := bel HB1.out hR
  have HRR : Hid (Below w0.heap.size w0 w2) := bel HR1.out hR
  clear hw2 hR y0 y1 x1 x2 x3 d1 d2 d3 d4 HA
  have y0 := (HY.out w2 HRR.out).1
  have x1 := (HC.out w2 HBW.out).1
  have g0 := aB hbx (i := 0) (u := .int .i64 q.1) rfl
  have g1 := aB hbx (i := 1) (u := .string q.2) rfl
  have HM0 : Hid (NAt w2 X vd (.slice (some ⟨g, 0, none⟩) u cu) N E Fd) := by
   have h9 := HM.out.below HBW.out
   rw [HVU.out, ← HUN.out] at h9; exact h9
  have HBB : Hid (∀ O, Below w2.heap.size w2 (w2.alloc O).drew) := fun O => ((qD _ w2).alloc (qC _) O).drew
  have HOA : Hid (∀ O, RowP (w2.alloc O).drew (.slice (some ⟨g, 0, none⟩) u cu) N.us) := fun O => own_below HM0.out.ru (HBB.out O)
  have HEN : Hid (∀ O, NtB (w2.alloc O).drew X vd (.slice (some ⟨g, 0, none⟩) u cu)) := fun O => (HM0.out.below (HBB.out O)).blk
  have q8 := fun O => aB (HEN.out O) (i := 1) (u := .slice (some ⟨g, 0, none⟩) u cu) rfl
  have q7 : ∀ O, (w2.alloc O).cell? ⟨X, 1, none⟩ = some (.slice (some ⟨g, 0, none⟩) u cu) := q8
  have HDNE : Hid (∀ k, (Value.slice (some ⟨g, 0, none⟩) u cu).ownBlock = some k → k = X → False) := fun k hk e => HM0.out.uX k hk e
  clear hbx
  go_wp2_with fail
  go_region_law (
   (refine Gy.lQ (by rfl) (.tmp 136) (.tmp 138) (by rfl) (.slice (some ⟨g, 0, none⟩) u cu) u N.us q (by rfl) w2.heap.size (by rfl) HUN.out.symm (by omega) (HOA.out _) (heap_alloc_new w2 _) ?_; intro v9 w9 hr9 hg9 hl9; obtain ⟨p9, n9, c9, rfl, _⟩ := aG hr9; have hbk9 : NtB w9 X vd (.slice (some ⟨g, 0, none⟩) u cu) := (hg9.block X (HM0.out.below (HBB.out _)).oM (fun e => HDNE.out X e.symm rfl)).trans (HEN.out _); have q9 := aB hbk9 (i := 1) (u := .slice (some ⟨g, 0, none⟩) u cu) rfl; have fq9 := aF hbk9 (i := 1); have HR9 := Hid.mk' hr9; have HC9 : Hid (Chg (fun k => (Value.slice (some ⟨g, 0, none⟩) u cu).ownBlock = some k) w2 w9) := (Chg.ofBelow (HBB.out _) _).trans (Chg.grown hg9 (fun g e => e)); have HL9 : Hid (∀ k, (Value.slice p9 n9 c9).ownBlock = some k → (Value.slice (some ⟨g, 0, none⟩) u cu).ownBlock = some k ∨ w2.heap.size ≤ k) := Hx.aCs hl9 (HBB.out _).size; clear hr9 hg9 hl9 hbk9))
  all_goals
   go_wp2_with fail
   go_ret
   obtain ⟨r1, r2, r3⟩ := HM0.out.sC HC9.out HR9.out HL9.out (fun x hx => by rcases jB.1 hx with e | e; exact HM.out.sz x e; rw [qP.1 e]; exact HSZ.out)
   have hvu : Value.slice (some ⟨g, 0, none⟩) u cu = vu := by rw [HVU.out, HUN.out]
   rw [hvu] at r2 r3
   exact ⟨rfl, dM HFF.out r1 ((Chg.ofBelow HBW.out _).trans r2) fun k hk => (r3 k hk).imp id fun e => qO HBW.out.size e⟩
end Gz
end Go.Proofs.YtjcemlmlfoilmaaGreatDoor
