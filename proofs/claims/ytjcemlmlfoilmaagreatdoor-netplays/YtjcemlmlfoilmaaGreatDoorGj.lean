import Derived.Test.YtjcemlmlfoilmaaGreatDoorGh
set_option linter.unusedSimpArgs false
set_option linter.unusedVariables false
set_option maxRecDepth 100000
set_option maxHeartbeats 8000000
namespace Go.Proofs.YtjcemlmlfoilmaaGreatDoor
namespace Gj
open Go.RowKit Cm Om Oz Oi Hm Ia Ic Um Aa Hc Hd Hj Gp
open La (bel aC own_below)
theorem aCr(args:Array Value)(W:World):(callFunc 25 args).run Tryz.prog W=.ok (.enter 25 args) W:=by
 first | kernel_rfl | simp[callFunc,go_sem,Tryz.func25]
theorem aJd(X : Nat)(vd vu : Value)(N : Nt)(E : Nat → Nat)(Fd : Nat → Nat → Prop)(F : Nat → Prop)(i : Nat)(b c : Int)(w : World)(m : NAt w X vd vu N E Fd)(hF : ∀ g, F g ↔ Fs X vd vu N.ds.length Fd g)(hu : N.us.length ≤ 100)(hi : i < N.us.length)(hto : (N.us.getD i pz).1 < N.ds.length)(hok : Hid ((unpB (N.us.getD i pz).2.toList).isSome = true)) :
  Calls Tryz.prog 7 #[ptr X, evV (4, i, b, c)] w fun r w' => r = .returned (.int .i64 (opnE (dq N (N.us.getD i pz).1) (N.us.getD i pz).2)) ∧ Left' w X F ⟨N.ds.set (N.us.getD i pz).1 (runS (dq N (N.us.getD i pz).1) (opnL (N.us.getD i pz).2)), N.us.eraseIdx i⟩ w' := by
 obtain ⟨pu, cu, evu, _, _, hc⟩ := m.fJ
 obtain ⟨g, rfl, hg⟩ := hc (by omega)
 obtain⟨u,hun⟩:=zx N.us.length
 have HC : Hid (∀ W, Below w.heap.size w W → W.cell? ⟨X, 1, none⟩ = some (.slice (some ⟨g, 0, none⟩) u cu) ∧ W.cell? ⟨g, i * 2, none⟩ = some (.int .i64 (N.us.getD i pz).1) ∧ W.cell? ⟨g, i * 2 + 1, none⟩ = some (.string (N.us.getD i pz).2)) := fun W hb => by
  refine ⟨aA hb ?_, aA hb (hg i hi).1, aA hb (hg i hi).2⟩
  have h9 := aB m.blk (i := 1) (u := vu) rfl
  rw [h9, evu, hun]
 have HSZ : Hid ((N.us.getD i pz).2.size ≤ maxLen) := by
  rw [Hid, qA, qB hi]
  exact m.sz _ (jF hi)
 have HTO : Hid ((N.us.getD i pz).1 < N.ds.length) := hto
 clear hto
 generalize N.us.getD i pz = q at HC HSZ HTO hok ⊢
 obtain ⟨q1, q2⟩ := q
 dsimp only at HC HSZ HTO hok ⊢
 obtain⟨oe,hoe⟩:=zx (opnE (dq N q1) q2)
 obtain⟨T,hT⟩:=zx (runS (dq N q1) (opnL q2))
 rw [← hoe, ← hT]
 have HOE : Hid (oe = opnE (dq N q1) q2) := hoe
 have HTT : Hid (T = runS (dq N q1) (opnL q2)) := hT
 clear hoe hT
 rw [← hun] at hu hi
 have z1 : decide ((i : Int) < 0) = false := by simp
 have z2 : decide ((u : Int) ≤ (i : Int)) = false := by simp; omega
 have z5 : ¬ (u : Int) ≤ (i : Int) := by omega
 have z7 : (i : Int) < (u : Int) := by omega
 have z9 : (0 : Int) ≤ (i : Int) := by omega
 have hB0 : Below w.heap.size w (w.alloc (.cells #[.int .i64 4, .int .i64 i, .int .i64 b, .int .i64 c] 33)) := (qD _ _).alloc (qC _) _
 have hA0 := heap_alloc_new w (.cells #[.int .i64 4, .int .i64 i, .int .i64 b, .int .i64 c] 33)
 have HM := Hid.mk' m
 have HFF := Hid.mk' hF
 have HUN := Hid.mk' hun
 have HVU := Hid.mk' evu
 have hul : (i : Int) + 1 ≤ (u : Int) := by omega
 clear m hF hun evu hc hg
 go_in
 go_upto_region 1 with fail
 generalize w.alloc (.cells #[.int .i64 4, .int .i64 i, .int .i64 b, .int .i64 c] 33) = w0 at hB0 hA0 ⊢
 have HB0 := Hid.mk' hB0
 have HA00 : Hid (w0.heap[w.heap.size]? = some (.cells #[.int .i64 4, .int .i64 i, .int .i64 b, .int .i64 c] 33)) := hA0
 have HY : Hid (∀ W, Below w0.heap.size w0 W → W.cell? ⟨w.heap.size, 0, none⟩ = some (.int .i64 4) ∧ W.cell? ⟨w.heap.size, 1, none⟩ = some (.int .i64 i)) := fun W hb => ⟨aA hb (aB hA0 (i := 0) rfl), aA hb (aB hA0 (i := 1) rfl)⟩
 obtain ⟨y0, y1⟩ := HY.out w0 (qD _ _)
 obtain ⟨x1, x2, x3⟩ := HC.out w0 hB0
 clear hB0 hA0
 go_wp2_with fail
 go_quiet (fail)
 generalize hwq : World.drewN _ _ = w1
 have HB1 : Hid (Below w.heap.size w w1) := by rw [← hwq]; exact La.aC HB0.out _
 have HR1 : Hid (Below w0.heap.size w0 w1) := by rw [← hwq]; exact La.aC (qD _ _) _
 clear hwq y0 y1 x1 x2 x3
 obtain ⟨y0, y1⟩ := HY.out w1 HR1.out
 obtain ⟨x1, x2, x3⟩ := HC.out w1 HB1.out
 have HA : Hid (∀ O, Below w1.heap.size w1 (w1.alloc O)) := fun O => (qD _ w1).alloc (qC _) O
 have d1 : ∀ O, (w1.alloc O).cell? ⟨X, 1, none⟩ = some (.slice (some ⟨g, 0, none⟩) u cu) := fun O => aA (HA.out O) x1
 have d2 : ∀ O, (w1.alloc O).cell? ⟨g, i * 2, none⟩ = some (.int .i64 q1) := fun O => aA (HA.out O) x2
 have d3 : ∀ O, (w1.alloc O).cell? ⟨g, i * 2 + 1, none⟩ = some (.string q2) := fun O => aA (HA.out O) x3
 have d4 : ∀ O, (w1.alloc O).cell? ⟨w.heap.size, 1, none⟩ = some (.int .i64 i) := fun O => aA (HA.out O) y1
 go_upto_region 22 with fail
 go_cut [6] (fun s6 wx => s6 = .pointer (some ⟨w1.heap.size, 0, none⟩) ∧ Hid (Below w1.heap.size w1 wx ∧ wx.heap[w1.heap.size]? = some (.cells #[.int .i64 q1, .string q2] 70)))
 case first =>
  go_region_law (fail)
  all_goals
   go_wp2_with fail
   go_meet
   case rel => exact ⟨rfl, (HA.out _).drew, heap_alloc_new w1 _⟩
 case rest =>
  obtain ⟨rfl, HR⟩ := hcut
  have HBW : Hid (Below w.heap.size w wc) := bel HB1.out HR.out.1
  have HRR : Hid (Below w0.heap.size w0 wc) := bel HR1.out HR.out.1
  clear y0 y1 x1 x2 x3 d1 d2 d3 d4 HA
  have y0 := (HY.out wc HRR.out).1
  obtain ⟨xc, _⟩ := HC.out wc HBW.out
  have x1 := xc
  have y1 := (HY.out wc HRR.out).2
  clear xc
  have HMC : Hid (NAt wc X vd (.slice (some ⟨g, 0, none⟩) u cu) N E Fd) := by
   have h9 := HM.out.below HBW.out
   rw [HVU.out, ← HUN.out] at h9; exact h9
  have HCU : Hid (u ≤ cu ∧ cu ≤ maxLen) := by
   obtain ⟨p9, c9, e9, h9, h8, _⟩ := HMC.out.fJ
   injection e9 with _ e9 e10
   rw [e10, e9]; exact ⟨h9, h8⟩
  have hcu : u ≤ cu := HCU.out.1
  have hcm : cu ≤ 9223372036854775807 := by have := HCU.out.2; unfold maxLen at this; omega
  have hic : i ≤ cu := by omega
  have hic2 : i + 1 ≤ cu := by omega
  obtain ⟨w2, hw2⟩ : ∃ W, W = wc := ⟨_, rfl⟩
  subst hw2
  go_upto_region 29 with fail
  go_cut [7] (fun s7 wx => ∃ (p7 : Option Addr) (n7 c7 : Nat), s7 = .slice p7 n7 c7 ∧ Hid (n7 = i ∧ RowP wx (.slice p7 n7 c7) (N.us.take i) ∧ Below w2.heap.size w2 wx ∧ ∀ k, (Value.slice p7 n7 c7).ownBlock = some k → w2.heap.size ≤ k))
  case first =>
   go_region_law (refine Gh.lJ (by rfl) (.tmp 142) (.tmp 149) (by rfl) (.slice none 0 0) 0 i cu [] (N.us.take i) (by rfl) ⟨g, 0, none⟩ (by rfl) rfl (by rw [qQ, ← HUN.out]; omega) (by omega) (jT _ _ _ _) (Gh.sT (own_below HMC.out.ru (qD _ w2).drew) i) ?_; intro v9 w9 hr9 hg9 hl9; obtain ⟨p9, n9, c9, rfl, hn9⟩ := aG hr9; have HN9 : Hid (n9 = i) := (by rw [Hid, hn9.out, vC, qQ, ← HUN.out]; omega); have HR9 : Hid (RowP w9 (.slice p9 n9 c9) (N.us.take i)) := hr9; have HB9 : Hid (Below w2.heap.size w2 w9) := (qD _ w2).drew.grown hg9 (qC _) (fun k hk => by cases hk); have HL9 : Hid (∀ k, (Value.slice p9 n9 c9).ownBlock = some k → w2.heap.size ≤ k) := (fun k hk => by rcases hl9 with e | e <;> rw [hk] at e <;> cases e; exact qC _); clear hr9 hg9 hl9 hn9)
   all_goals
    go_wp2_with fail
    go_meet
    case rel => exact ⟨p9, n9, c9, rfl, HN9.out, HR9.out, HB9.out, HL9.out⟩
  case rest =>
   obtain ⟨p7, n7, c7, rfl, H7⟩ := hcut
   obtain ⟨w3, hw3⟩ : ∃ W, W = wc := ⟨_, rfl⟩
   subst hw3
   have hn7 := H7.out.1.symm
   subst hn7
   have HR3 : Hid (RowP w3 (.slice p7 i c7) (N.us.take i)) := H7.out.2.1
   have HB3 : Hid (Below w2.heap.size w2 w3) := H7.out.2.2.1
   have HL3 : Hid (∀ k, (Value.slice p7 i c7).ownBlock = some k → w2.heap.size ≤ k) := H7.out.2.2.2
   have HM3 : Hid (NAt w3 X vd (.slice (some ⟨g, 0, none⟩) u cu) N E Fd) := HMC.out.below HB3.out
   have HS3 : Hid (w2.heap.size ≤ w3.heap.size) := HB3.out.size
   clear H7 x1 y0 y1
   obtain ⟨x1, _⟩ := HC.out w3 (bel HBW.out HB3.out)
   obtain ⟨y0, y1⟩ := HY.out w3 (bel HRR.out HB3.out)
   have HUL : Hid ((N.us.drop (i + 1)).length = u - (i + 1)) := by rw [Hid, xH, ← HUN.out]
   obtain ⟨A, hA, HSRC⟩ : ∃ A : Addr, (if cu = i + 1 then some (⟨g, 0, none⟩ : Addr) else some ⟨g, (i + 1) * 2, none⟩) = some A ∧ Hid (∀ j x, (flatP (N.us.drop (i + 1)))[j]? = some x → w3.drew.cell? (A.add j) = some x) := by
    by_cases h : cu = i + 1
    ·refine ⟨⟨g, 0, none⟩, by rw [if_pos h], fun j x hx => ?_⟩
     have h0 : (flatP (N.us.drop (i + 1))).length = 0 := by rw [bA, HUL.out]; omega
     rw [List.length_eq_zero_iff.1 h0] at hx
     simp at hx
    ·exact ⟨⟨g, (i + 1) * 2, none⟩, by rw [if_neg h], Gh.tH (own_below HM3.out.ru (qD _ w3).drew) (i + 1)⟩
   have HTL : Hid ((N.us.take i).length = i) := by rw [Hid, qQ, ← HUN.out]; omega
   have HXL : Hid (X < w2.heap.size) := HMC.out.oM
   have HNB : Hid (NtB w3.drew X vd (.slice (some ⟨g, 0, none⟩) u cu)) := (HM3.out.below (qD _ w3).drew).blk
   have hwr : IntKind.i64.wrap ((i : Int) + 1) = ((i + 1 : Nat) : Int) := by rw [Gr.bG (by omega) (by omega)]; omega
   have hiu : i + 1 ≤ u := by omega
   have hi0 : (0 : Int) ≤ (i : Int) + 1 := by omega
   go_upto_region 30 with fail
   go_cut [7] (fun _ wx => Hid (∃ (v9 : Value) (w9 : World), RowP w9 v9 (N.us.eraseIdx i) ∧ Below w2.heap.size w2 w9 ∧ (∀ k, v9.ownBlock = some k → (Value.slice (some ⟨g, 0, none⟩) u cu).ownBlock = some k ∨ w2.heap.size ≤ k) ∧ wx = w9.setCell ⟨X, 1, none⟩ v9))
   case first =>
    go_region_law (refine Gh.lJ (by rfl) (.tmp 152) (.tmp 160) (by rfl) (.slice p7 i c7) i (u - (i + 1)) (cu - (i + 1)) (N.us.take i) (N.us.drop (i + 1)) (by rfl) A (by first | rfl | simp [Act.eval, Act.put]) HTL.out HUL.out (by omega) (own_below HR3.out (qD _ w3).drew) HSRC.out ?_; intro v9 w9 hr9 hg9 hl9; obtain ⟨p9, n9, c9, rfl, _⟩ := aG hr9; have hbk9 : NtB w9 X vd (.slice (some ⟨g, 0, none⟩) u cu) := (hg9.block X (jE HXL.out HS3.out) (fun e => absurd (HL3.out X e.symm) (Nat.not_le.2 HXL.out))).trans HNB.out; have q9 := aB hbk9 (i := 1) (u := .slice (some ⟨g, 0, none⟩) u cu) rfl; have fq9 := aF hbk9 (i := 1); have HR9 : Hid (RowP w9 (.slice p9 n9 c9) (N.us.eraseIdx i)) := (by rw [Hid, List.eraseIdx_eq_take_drop_succ]; exact hr9); have HB9 : Hid (Below w2.heap.size w2 w9) := HB3.out.drew.grown hg9 HS3.out (fun k hk => HL3.out k hk); have HL9 : Hid (∀ k, (Value.slice p9 n9 c9).ownBlock = some k → (Value.slice (some ⟨g, 0, none⟩) u cu).ownBlock = some k ∨ w2.heap.size ≤ k) := (fun k hk => qF (by rcases hl9 with e | e; exact HL3.out k (e.symm.trans hk); rw [hk] at e; injection e with e; rw [e]; exact HS3.out)); clear hr9 hg9 hl9 hbk9)
    all_goals
     go_wp2_with fail
     go_meet
     case rel => exact ⟨_, w9, HR9.out, HB9.out, HL9.out, rfl⟩
   case rest =>
    obtain ⟨v9, w9, hr9, hb9, hl9, hwc⟩ := hcut.out
    obtain ⟨r1, r2, r3⟩ := HMC.out.sC (Chg.ofBelow hb9 _) hr9 hl9 (fun x hx => HM.out.sz x ((List.eraseIdx_sublist _ _).subset hx))
    rw [← hwc] at r1 r2
    have hvu : Value.slice (some ⟨g, 0, none⟩) u cu = vu := by rw [HVU.out, HUN.out]
    rw [hvu] at r2 r3
    have HR1' := Hid.mk' r1
    have HR2' := Hid.mk' r2
    have HR3' := Hid.mk' r3
    have HK : Hid (∀ k, k < w2.heap.size → k ≠ X → wc.heap[k]? = w2.heap[k]?) := fun k hk hx => by rw [hwc, set_block _ _ _ _ hx]; exact hb9.block k hk
    have HLW : Hid (w.heap.size < w2.heap.size ∧ w.heap.size ≠ X) := ⟨jE (qG.1 HA00.out).1 HRR.out.size, fun e => by have := HM.out.oM; omega⟩
    have HCE : Hid (∀ o, wc.cell? ⟨w.heap.size, o, none⟩ = w2.cell? ⟨w.heap.size, o, none⟩) := fun o => aM (HK.out _ HLW.out.1 HLW.out.2)
    have z0 : wc.cell? ⟨w.heap.size, 0, none⟩ = some (.int .i64 4) := (HCE.out 0).trans (HY.out w2 HRR.out).1
    have HB2 := HBW
    clear hcut hr9 hb9 hl9 hwc r1 r2 r3 hvu x1 y0 y1 hA hwr
    obtain ⟨w4, hw4⟩ : ∃ W, W = wc := ⟨_, rfl⟩
    subst hw4
    obtain ⟨pd, cn, evd, hcn1, hcn2, hcd⟩ := HR1'.out.fC
    obtain ⟨gd, rfl, hgd⟩ := hcd (Nat.lt_of_le_of_lt (jW _) HTO.out)
    obtain⟨nd,hnd⟩:=zx N.ds.length
    have x0 : w4.cell? ⟨X, 0, none⟩ = some (.slice (some ⟨gd, 0, none⟩) nd cn) := by
     have h9 := aB HR1'.out.blk (i := 0) (u := vd) rfl
     rw [h9, evd, hnd]
    have hto2 : q1 < nd := by rw [hnd]; exact HTO.out
    have hnd4 : nd ≤ 4 := by rw [hnd]; exact HM.out.few
    have x4 : w4.cell? ⟨gd, q1, none⟩ = some (ptr (E q1)) := hgd q1 HTO.out
    have HBX : Hid (w1.heap.size < w2.heap.size ∧ w1.heap.size ≠ X) := ⟨(qG.1 HR.out.2).1, fun e => by have := (HM.out.below HB1.out).oM; omega⟩
    have x5 : w4.cell? ⟨w1.heap.size, 0, none⟩ = some (.int .i64 q1) := (aM (HK.out _ HBX.out.1 HBX.out.2)).trans (aB HR.out.2 (i := 0) rfl)
    have x6 : w4.cell? ⟨w1.heap.size, 1, none⟩ = some (.string q2) := (aM (HK.out _ HBX.out.1 HBX.out.2)).trans (aB HR.out.2 (i := 1) rfl)
    have hdq : ∀ j, dq { N with us := N.us.eraseIdx i } j = dq N j := fun j => rfl
    have HMD : Hid (NAt w4.drew X vd v9 { N with us := N.us.eraseIdx i } E Fd) := HR1'.out.below (qD _ w4).drew
    have CO := Gv.aD4 (E q1) (dq N q1) (Fd q1) q2 w4.drew (HMD.out.docs.at' q1 HTO.out) HSZ.out hok
    have HTZ : (0 : Int) ≤ (q1 : Int) := by omega
    have HTY : (q1 : Int) < (nd : Int) := by omega
    generalize opnN (dq N q1) q2 = on at CO
    rw [← HOE.out, ← HTT.out] at CO
    have HCO := Hid.mk' CO
    clear CO hcd hgd evd hnd hdq HC HSZ
    go_wp2_with fail
    go_upto_region 32 with fail
    go_cut [8, 9] (fun _ s9 wx => s9 = .int .i64 oe ∧ Hid (∃ F', RefD wx (E q1) T F' ∧ Chg (Fd q1) w4.drew wx ∧ ∀ g, F' g → Fd q1 g ∨ w4.drew.heap.size ≤ g))
    case first =>
     go_region_law (refine Ig.mN (R := fun v w' => v = .tuple #[.int .i64 on, .int .i64 oe] ∧ ∃ F', RefD w' (E q1) T F' ∧ Chg (Fd q1) w4.drew w' ∧ ∀ g, F' g → Fd q1 g ∨ w4.drew.heap.size ≤ g) (by rfl) 25 (.tmp 175) (.tmp 177) _ _ (by rfl) (ptr (E q1)) (.string q2) (by rfl) (by rfl) aCr (HCO.out.mono (by rintro e w' ⟨rfl, h9⟩; exact ⟨_, rfl, rfl, h9⟩)) ?_; rintro v8 w8 ⟨rfl, h8⟩; have H8 := Hid.mk' h8; clear h8)
     all_goals
      go_wp2_with fail
      go_meet
      case rel => exact ⟨rfl, H8.out⟩
    case rest =>
     obtain ⟨rfl, H8⟩ := hcut
     go_wp2_with fail
     go_ret
     refine ⟨rfl, ?_⟩
     obtain ⟨F', f1, f2, f3⟩ := H8.out
     obtain ⟨t1, t2, t3⟩ := HMD.out.aAH HTO.out f1 f2 f3
     have hdr : Below w4.heap.size w4 w4.drew := (qD _ w4).drew
     refine dM HFF.out t1 (Chg.next ((Chg.ofBelow HB2.out _).trans (HR2'.out.trans (Chg.ofBelow hdr _))) t2 fun k hk => (HR3'.out k hk).imp id fun e => qO HB2.out.size e) fun k hk => ?_
     rcases t3 k hk with e | e
     ·exact (HR3'.out k e).imp id fun e => qO HB2.out.size e
     ·exact qF (qO HB2.out.size (qO HR2'.out.size e))
end Gj
end Go.Proofs.YtjcemlmlfoilmaaGreatDoor
