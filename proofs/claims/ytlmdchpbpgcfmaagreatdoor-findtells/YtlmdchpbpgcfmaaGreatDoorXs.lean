/- What the reference's doc answers: Apply, of cuts and joins, and of every op. -/
import Derived.Test.YtlmdchpbpgcfmaaGreatDoorXr
import Derived.Test.YtlmdchpbpgcfmaaGreatDoorJ12
set_option linter.unusedVariables false
set_option maxRecDepth 100000
set_option maxHeartbeats 8000000
namespace Go.Proofs.YtlmdchpbpgcfmaaGreatDoor
namespace Xs
open Go.ChangeShapes Go.WideShapes Go.ChangeAt Go.RowKit Cm Ka Kb Na Om Oa Oz Oc Og Oi Hm Ia Ib Ic Idc Ie Ii Xp Xq Xr
open La (bel bel_drew errV_zero errV_ne own_ge own_grow own_below Lies)
open Lj (BookAt BookNew)
theorem ap_cut_gone (B : Nat → Prop) (E : Nat) (S : Dq) (F : Nat → Prop) (a b : Int) (p : ByteArray) (c : Int) (vs : Value) (s : List Dt) (w : World) (h : RefAt B w E S F) (hd : DtsAt w vs s) (hi : In B vs) (hp : p.size ≤ maxLen) (ho : opE ((a, b), 3, p, c, s) = 0) (hpc : Pm.chk p.toList = 0) (hkn : kn S a + 1 = b) (hf : S.ops.length < 400) (hdo : doE S ((a, b), 3, p, c, s) = 0) (hsw : saw S.ops p (a, b) = true) :
  Calls Tryz.prog 31 #[.pointer (some ⟨E, 0, none⟩), .agg #[.int .i64 a, .int .i64 b, .int .i64 3, .string p, .int .i64 c, vs]] w (RPost B w E S F ((a, b), 3, p, c, s)) := by
 have HAT := z9 h
 obtain ⟨I, gk, vb, vm, vo, hm⟩ := h
 have HB1 : Hid (Below w.heap.size w (w.alloc (.cells #[.int .i64 a, .int .i64 b, .int .i64 3, .string p, .int .i64 c, vs] 75))) := (Below.refl _ w).alloc (Nat.le_refl _) _
 have H6 := z9 (six_new w a b 3 p c vs 75)
 have COp : Hid (∀ W, Below w.heap.size w W → Calls Tryz.prog 61 #[.agg #[.int .i64 a, .int .i64 b, .int .i64 3, .string p, .int .i64 c, vs]] W fun e w' => e = .returned (.int .i64 (opE ((a, b), 3, p, c, s))) ∧ Below W.heap.size W w') := fun W hb => Ob.op_ref a b 3 p c vs s W hp (hd.below hb)
 have hdb : doB S ((a, b), 3, p, c, s) = S.book := by unfold doB; rw [if_neg (by decide : ¬ (3 : Int) = 1), if_neg (by decide : ¬ (3 : Int) = 2)]
 have hdm : doM S ((a, b), 3, p, c, s) = S.marks := by unfold doM; rw [if_pos rfl]; simp only [hsw, if_true]
 have HDB := z9 hdb
 have HDM := z9 hdm
 have CS : Hid (∀ W, Below w.heap.size w W → Calls Tryz.prog 64 #[.pointer (some ⟨E, 0, none⟩), .string p, .agg #[.int .i64 a, .int .i64 b]] W fun e w' => e = .returned (.bool true) ∧ Below W.heap.size W w') := fun W hb => by
  rw [← hsw]
  exact Hb.seen_ref E vo S.ops p a b W (blk_cell (hm.below hb).blk rfl) (hm.below hb).ops.at (by have := I.few; omega) (fun x hx => Nat.le_trans (lawOf_zero.1 (opE_zero.1 (I.right x hx)).2.2.2).2.2.2.1 (by decide))
 have HNEW := z9 (isNew_iff.2 ⟨ho, hkn, hf, hdo⟩)
 have HI := z9 I
 have HDD : Hid (∀ W, Below w.heap.size w W → DtsAt W vs s) := fun W hb => hd.below hb
 have HIN := z9 hi
 obtain ⟨ps, ns, cs, hvs⟩ : ∃ p n c, vs = .slice p n c := by obtain ⟨p, c, e, _⟩ := hd; exact ⟨_, _, _, e⟩
 subst hvs
 obtain ⟨i0, hi9, hz0, hz1, hz2⟩ := info_parts infoR
 rw [ho] at COp
 obtain ⟨d1, d2, d3, d4⟩ := dotE_iff.1 (opE_zero.1 ho).1
 simp only at d1 d2 d3 d4
 obtain ⟨q, hq⟩ : ∃ q, q = kn S a := ⟨_, rfl⟩
 have hk8 : a.toNat - 1 < 8 := by omega
 have hka : (a - 1).toNat = a.toNat - 1 := by omega
 have HKA := z9 hka
 have HKN : Hid (∀ W, Below w.heap.size w W → W.cell? ⟨gk, a.toNat - 1, none⟩ = some (.int .i64 q)) := fun W hb => by
  obtain ⟨cur, k1, k2⟩ := (hm.below hb).kn
  refine blk_cell k1 ?_
  have hkl : a.toNat - 1 < S.known.length := by rw [I.klen]; exact hk8
  rw [← Array.getElem?_toList, k2, List.getElem?_map, List.getElem?_eq_getElem hkl, hq]
  unfold kn
  rw [hka, List.getD_eq_getElem?_getD, List.getElem?_eq_getElem hkl]; rfl
 obtain ⟨po, no, co, hvo⟩ : ∃ p n c, vo = .slice p n c := by obtain ⟨L, _, e, _⟩ := hm.ops; obtain ⟨p, n, c, e2, _⟩ := own_shape e; exact ⟨p, n, c, e2⟩
 obtain ⟨pb, nb, cb, hvb⟩ : ∃ p n c, vb = .slice p n c := by obtain ⟨p, c, e, _⟩ := hm.book; exact ⟨_, _, _, e⟩
 obtain ⟨pm, nm, cm, hvm⟩ : ∃ p n c, vm = .slice p n c := by obtain ⟨p, c, e, _⟩ := hm.marks; exact ⟨_, _, _, e⟩
 have HNO : Hid (no = S.ops.length) := by
  obtain ⟨L, _, e, _⟩ := hm.ops
  obtain ⟨p, n, c, e2, e3⟩ := own_shape e
  rw [hvo] at e2
  injection e2 with _ e2 _
  exact e2.trans e3.out
 have HMM := z9 hm
 subst hvo hvb hvm
 have HBL : Hid (∀ W, Below w.heap.size w W → W.heap[E]? = some (.cells #[.slice pb nb cb, .slice pm nm cm, .slice (some ⟨gk, 0, none⟩) 8 8, .slice po no co] 118)) := fun W hb => (hm.below hb).blk
 have hi0 : 0 ≤ a - 1 := by omega
 have hi1 : a - 1 < 8 := by omega
 rw [← hq] at hkn
 have hkn2 : ¬ b ≤ q := by omega
 have hkn3 : ¬ q < b - 1 := by omega
 have hfz : ¬ (400 : Int) ≤ no := by have := HNO.out; omega
 have hf4 : no < 400 := by have := HNO.out; omega
 clear hd hi hp ho hm I hq hk8 hka hf hpc hdb hdm hdo hsw
 go_enter Tryz.func31, Tryz.ntmps31
 obtain ⟨o0, o1, o2, o3, o4, o5⟩ := H6.out
 go_wp2_with fail
 refine (COp.out _ HB1.out).mono ?_
 rintro e w2 ⟨rfl, hb2⟩
 have HB2 := z9 (bel HB1.out hb2)
 obtain ⟨o0, o1, o2, o3, o4, o5⟩ := H6.out.below hb2
 have HS2 := z9 (H6.out.below hb2)
 have x2 := blk_cell (HBL.out w2 HB2.out) (i := 2) (u := .slice (some ⟨gk, 0, none⟩) 8 8) rfl
 have xk := HKN.out w2 HB2.out
 clear hb2 COp H6 HB1
 go_wp2_with fail
 have hwr : IntKind.i64.wrap (a - 1) = a - 1 := wrap_in (by omega) (by omega)
 go_quiet (fail)
 generalize hwq : World.drewN _ _ = wq
 have HBq : Hid (Below w.heap.size w wq) := by rw [← hwq]; exact bel_drew HB2.out _
 have HSq : Hid (Six wq w.heap.size a b 3 p c (.slice ps ns cs)) := by rw [← hwq]; exact HS2.out
 clear hwq o0 o1 o2 o3 o4 o5 x2 xk HS2
 obtain ⟨o0, o1, o2, o3, o4, o5⟩ := HSq.out
 have x3 := blk_cell (HBL.out wq HBq.out) (i := 3) (u := .slice po no co) rfl
 have x0 := blk_cell (HBL.out wq HBq.out) (i := 0) (u := .slice pb nb cb) rfl
 have x1 := blk_cell (HBL.out wq HBq.out) (i := 1) (u := .slice pm nm cm) rfl
 go_wp2_with fail
 refine (CS.out wq HBq.out).mono ?_
 rintro e w7 ⟨rfl, hb7⟩
 have HB7 := z9 (bel HBq.out hb7)
 have HS7 := z9 (HSq.out.below hb7)
 have HKB : Hid (BookAt w7 (.slice pb nb cb) (doB S ((a, b), 3, p, c, s)) ∧ In (Gn (News' F w w7) E gk (.slice po no co)) (.slice pb nb cb)) := ⟨(by rw [HDB.out]; exact HMM.out.book.below HB7.out), HMM.out.bookG.mono fun g hg => ⟨Or.inl hg.1, hg.2⟩⟩
 have HKM : Hid (MksAt w7 (.slice pm nm cm) (doM S ((a, b), 3, p, c, s)) ∧ In (Gn (News' F w w7) E gk (.slice po no co)) (.slice pm nm cm)) := ⟨(by rw [HDM.out]; exact HMM.out.marks.below HB7.out), HMM.out.marksG.mono fun g hg => ⟨Or.inl hg.1, hg.2⟩⟩
 all_goals
  obtain ⟨HM8, HC8⟩ := ref_st3 (i := a.toNat - 1) (n := b) HMM.out HB7.out HKB.out.1 HKB.out.2 HKM.out.1 HKM.out.2
  have HBK7 := HMM.out.below HB7.out
  obtain ⟨cur, kc1, kc2⟩ := HBK7.kn
  have hEk : E ≠ gk := blk_ne HBK7.blk kc1 (by decide)
  have hkn8 : a.toNat - 1 < cur.size := by have h9 := congrArg List.length kc2; rw [List.length_map, HI.out.klen] at h9; have h8 : cur.toList.length = cur.size := (by simp); omega
  have HEL : Hid (E < w.heap.size ∧ gk < w.heap.size) := ⟨(HMM.out.lt _ (HMM.out.wr _ (Or.inl rfl))).2, (HMM.out.lt _ (HMM.out.wr _ (Or.inr (Or.inl rfl)))).2⟩
  have y0 := blk_cell HBK7.blk (i := 0) (u := .slice pb nb cb) rfl
  have g0 := blk_free HBK7.blk (i := 0)
  have hbA := set_heap (i := 0) (v := .slice pb nb cb) HBK7.blk
  have y1 := blk_cell hbA (i := 1) (u := .slice pm nm cm) rfl
  have g1 := blk_free hbA (i := 1)
  have hbB := set_heap (i := 1) (v := .slice pm nm cm) hbA
  have y2 := blk_cell hbB (i := 2) (u := .slice (some ⟨gk, 0, none⟩) 8 8) rfl
  have hkB : ((w7.setCell ⟨E, 0, none⟩ (.slice pb nb cb)).setCell ⟨E, 1, none⟩ (.slice pm nm cm)).heap[gk]? = some (.cells cur 3 (0, 0)) := by rw [set_block _ _ _ _ hEk.symm, set_block _ _ _ _ hEk.symm]; exact kc1
  have y4 := blk_cell hkB (i := a.toNat - 1) (u := cur[a.toNat - 1]) (Array.getElem?_eq_getElem hkn8)
  have g4 := blk_free hkB (i := a.toNat - 1)
  have HS8 : Hid (Six ((w7.setCell ⟨E, 0, none⟩ (.slice pb nb cb)).setCell ⟨E, 1, none⟩ (.slice pm nm cm)) w.heap.size a b 3 p c (.slice ps ns cs)) := mid_same HS7.out (by rw [set_block _ _ _ _ (by have := HEL.out.1; simp; omega), set_block _ _ _ _ (by have := HEL.out.1; simp; omega)])
  have HS9 : Hid (Six (st3 w7 E gk (a.toNat - 1) (.slice pb nb cb) (.slice pm nm cm) b) w.heap.size a b 3 p c (.slice ps ns cs)) := mid_same HS8.out (by unfold st3; rw [set_block _ _ _ _ (by have := HEL.out.2; simp; omega)])
  obtain ⟨r0, r1, _, _, _, _⟩ := HS8.out
  have HMM8 := z9 HM8
  have HCC8 := z9 HC8
  have y4d : ((w7.setCell ⟨E, 0, none⟩ (.slice pb nb cb)).setCell ⟨E, 1, none⟩ (.slice pm nm cm)).drew.cell? ⟨gk, a.toNat - 1, none⟩ = some cur[a.toNat - 1] := y4
  have g4d : ((w7.setCell ⟨E, 0, none⟩ (.slice pb nb cb)).setCell ⟨E, 1, none⟩ (.slice pm nm cm)).drew.frozen? ⟨gk, a.toNat - 1, none⟩ = false := g4
  have hBk : w.heap.size ≠ gk := by have := HEL.out.2; omega
  clear HM8 HC8 HBK7 kc1 kc2 hbA hbB hkB HS8 o0 o1 o2 o3 o4 o5 x0 x1 x3 hb7 y4 g4
  go_wp2_with fail
  go_region_held3 (fun W => W.cell? ⟨E, 2, none⟩ = some (.slice (some ⟨gk, 0, none⟩) 8 8) ∧ W.cell? ⟨w.heap.size, 0, none⟩ = some (.int .i64 a) ∧ W.cell? ⟨w.heap.size, 1, none⟩ = some (.int .i64 b)) (first | (refine ⟨(cell_set hEk).trans ?_, (cell_set hBk).trans ?_, (cell_set hBk).trans ?_⟩ <;> (go_split_ands; assumption)) | (go_keep; done)) (fail)
  generalize hw8 : World.setCell _ ⟨gk, a.toNat - 1, none⟩ _ = w8
  have hh : w8.heap = (st3 w7 E gk (a.toNat - 1) (.slice pb nb cb) (.slice pm nm cm) b).heap := by rw [← hw8]; rfl
  have HM9 : Hid (RefMem B w8 E gk (.slice pb nb cb) (.slice pm nm cm) (.slice po no co) ⟨doB S ((a, b), 3, p, c, s), doM S ((a, b), 3, p, c, s), S.known.set (a.toNat - 1) b, S.ops⟩ (News' F w w7)) := HMM8.out.stay (fun g _ => by rw [hh]) (by rw [hh]; exact Nat.le_refl _)
  have HC9 : Hid (Chg F w w8) := ⟨by rw [← hw8]; exact HCC8.out.os, by rw [← hw8]; exact HCC8.out.tape, by rw [← hw8]; exact HCC8.out.output, by rw [hh]; exact HCC8.out.size, fun g hg hf => by rw [hh]; exact HCC8.out.block g hg hf⟩
  have HSX := z9 (mid_same HS9.out (by rw [hh]))
  clear hw8 hh HMM8 HCC8 HS9 y0 g0 y1 g1 y2 y4d g4d r0 r1
  obtain ⟨L, hL, hLo, hLd⟩ := HM9.out.ops
  have HL1 := z9 hL
  have HL2 := z9 hLd
  have HLO : Hid (w8.ownsRow 0 75 6 (.slice po no co) no (flatO L)) := by have h9 : w8.ownsRow 0 75 6 (.slice po no co) S.ops.length (flatO L) := hLo; rw [← HNO.out] at h9; exact h9
  have HBA : Hid (∀ O, Below w8.heap.size w8 (w8.alloc O).drew.drew) := fun O => ((Below.refl _ w8).alloc (Nat.le_refl _) O).drew.drew
  have HOA : Hid (∀ O, (w8.alloc O).drew.drew.ownsRow 0 75 6 (.slice po no co) no (flatO L)) := fun O => own_below HLO.out (HBA.out O)
  have HEN : Hid (∀ O, (w8.alloc O).drew.drew.heap[E]? = some (.cells #[.slice pb nb cb, .slice pm nm cm, .slice (some ⟨gk, 0, none⟩) 8 8, .slice po no co] 118)) := fun O => (HM9.out.below (HBA.out O)).blk
  have q8 := fun O => blk_cell (HEN.out O) (i := 3) (u := .slice po no co) rfl
  have q7 : ∀ O, (w8.alloc O).cell? ⟨E, 3, none⟩ = some (.slice po no co) := q8
  have HD8 : Hid (DtsAt w8 (.slice ps ns cs) s) := dots_stay (HDD.out w (Below.refl _ _)) HIN.out (HC9.out.stay fun g hg => ⟨HMM.out.old g hg, fun e => (HMM.out.lt g e).1 hg⟩)
  have HDNE : Hid (∀ g, (Value.slice po no co).ownBlock = some g → g = E → False) := fun g hg e => by
   obtain ⟨_, cur2, hc⟩ := own_lt HLO.out g hg
   exact blk_ne hc HM9.out.blk (by decide) e
  have z3 := blk_cell HM9.out.blk (i := 3) (u := .slice po no co) rfl
  obtain ⟨o0, o1, o2, o3, o4, o5⟩ := HSX.out
  clear hL hLo hLd
  go_wp2_with fail
  go_region_law (
   (refine step_putO (by rfl) (.tmp 140) (.tmp 142) (by rfl) (.slice po no co) no L ((a, b), 3, p, c, s) ps ns cs (by rfl) w8.heap.size (by rfl) (by omega) (HOA.out _) (heap_alloc_new w8 _) ?_; intro v9 w9 hr9 hg9 hl9; obtain ⟨p9, n9, c9, rfl, _⟩ := own_shape hr9; have hbk9 := (blk_grown (HEN.out _) hg9 (fun e => HDNE.out E e rfl)); have q9 := blk_cell hbk9 (i := 3) (u := .slice po no co) rfl; have fq9 := blk_free hbk9 (i := 3); have HR9 := Hid.mk' hr9; have HG9 := Hid.mk' hg9; have HL9 := Hid.mk' hl9; clear hr9 hg9 hl9 hbk9))
  all_goals
   have HP : Hid (RPost B w E S F ((a, b), 3, p, c, s) (.returned (.tuple #[.bool true, .int .i64 0])) (w9.setCell ⟨E, 3, none⟩ (.slice p9 n9 c9))) := (ref_end (o := ((a, b), 3, p, c, s)) (F1 := News' F w w7) (vb := .slice pb nb cb) (vm := .slice pm nm cm) (vo := .slice po no co) (gk := gk) (L := L) HI.out HNEW.out HC9.out (fun g hg => hg.imp id And.left) (by have h9 := HM9.out; rw [← HKA.out] at h9; exact h9) HL1.out HL2.out (HBA.out _) HD8.out HIN.out HG9.out (by have h9 := HR9.out; rw [HNO.out] at h9; exact h9) HL9.out)
   clear HR9 HG9 HL9
   go_wp2_with fail
   go_ret2
   exact HP.out
theorem ap_cut_no (B : Nat → Prop) (E : Nat) (S : Dq) (F : Nat → Prop) (a b : Int) (p : ByteArray) (c : Int) (vs : Value) (s : List Dt) (w : World) (h : RefAt B w E S F) (hd : DtsAt w vs s) (hi : In B vs) (hp : p.size ≤ maxLen) (ho : opE ((a, b), 3, p, c, s) = 0) (hpc : Pm.chk p.toList = 0) (hkn : kn S a + 1 = b) (hf : S.ops.length < 400) (hsw : saw S.ops p (a, b) = false) (k : Int) (hdo : doE S ((a, b), 3, p, c, s) = k) (h0 : k ≠ 0) :
  Calls Tryz.prog 31 #[.pointer (some ⟨E, 0, none⟩), .agg #[.int .i64 a, .int .i64 b, .int .i64 3, .string p, .int .i64 c, vs]] w (RPost B w E S F ((a, b), 3, p, c, s)) := by
 have HAT := z9 h
 obtain ⟨I, gk, vb, vm, vo, hm⟩ := h
 have HB1 : Hid (Below w.heap.size w (w.alloc (.cells #[.int .i64 a, .int .i64 b, .int .i64 3, .string p, .int .i64 c, vs] 75))) := (Below.refl _ w).alloc (Nat.le_refl _) _
 have H6 := z9 (six_new w a b 3 p c vs 75)
 have COp : Hid (∀ W, Below w.heap.size w W → Calls Tryz.prog 61 #[.agg #[.int .i64 a, .int .i64 b, .int .i64 3, .string p, .int .i64 c, vs]] W fun e w' => e = .returned (.int .i64 (opE ((a, b), 3, p, c, s))) ∧ Below W.heap.size W w') := fun W hb => Ob.op_ref a b 3 p c vs s W hp (hd.below hb)
 have HN : Hid (isNew S ((a, b), 3, p, c, s) = false) := by
  unfold Hid
  cases h9 : isNew S ((a, b), 3, p, c, s)
  ·rfl
  ·have h8 := (isNew_iff.1 h9).2.2.2; rw [hdo] at h8; exact absurd h8 h0
 have HE : Hid (apE S ((a, b), 3, p, c, s) = k) := by unfold Hid apE; rw [if_neg (by simpa using ho)]; simp only; rw [if_neg (by omega), if_neg (by omega), if_neg (by omega), hdo]
 have h0b : (k == 0) = false := by simpa using h0
 have h0c : (k != 0) = true := by simpa using h0
 have hdb : doB S ((a, b), 3, p, c, s) = S.book := by unfold doB; rw [if_neg (by decide : ¬ (3 : Int) = 1), if_neg (by decide : ¬ (3 : Int) = 2)]
 have hde : doE S ((a, b), 3, p, c, s) = withM S.marks (p, (a, b)) := by unfold doE; rw [if_neg (by decide : ¬ (3 : Int) = 1), if_neg (by decide : ¬ (3 : Int) = 2), if_pos rfl]; simp only [hsw]; rfl
 have hdm : doM S ((a, b), 3, p, c, s) = ins mlt S.marks (p, (a, b)) := by unfold doM; rw [if_pos rfl]; simp only [hsw]; rfl
 have CC : Hid (∀ W, Below w.heap.size w W → Calls Tryz.prog 65 #[vm, .agg #[.string p, .int .i64 a, .int .i64 b]] W fun e w' => ∃ v', e = .returned (.tuple #[v', .int .i64 (doE S ((a, b), 3, p, c, s))]) ∧ (MksAt w' v' (Wd.withL S.marks (p, (a, b))) ∧ (v' = vm ∨ Lies w.heap.size v')) ∧ Below W.heap.size W w') := fun W hb => by
  rw [hde]
  exact (We.with_loc vm S.marks p a b W (hm.marks.below hb) (marksE_zero.1 I.marks).2.2 (marksE_zero.1 I.marks).1).mono fun e w' ⟨v', h1, h2, h3⟩ => ⟨v', h1, ⟨h2.1, h2.2.imp id fun h9 => h9.mono hb.size⟩, h3⟩
 have CS : Hid (∀ W, Below w.heap.size w W → Calls Tryz.prog 64 #[.pointer (some ⟨E, 0, none⟩), .string p, .agg #[.int .i64 a, .int .i64 b]] W fun e w' => e = .returned (.bool false) ∧ Below W.heap.size W w') := fun W hb => by
  rw [← hsw]
  exact Hb.seen_ref E vo S.ops p a b W (blk_cell (hm.below hb).blk rfl) (hm.below hb).ops.at (by have := I.few; omega) (fun x hx => Nat.le_trans (lawOf_zero.1 (opE_zero.1 (I.right x hx)).2.2.2).2.2.2.1 (by decide))
 rw [hdo] at CC
 rw [ho] at COp
 obtain ⟨d1, d2, d3, d4⟩ := dotE_iff.1 (opE_zero.1 ho).1
 simp only at d1 d2 d3 d4
 obtain ⟨q, hq⟩ : ∃ q, q = kn S a := ⟨_, rfl⟩
 have hk8 : a.toNat - 1 < 8 := by omega
 have hka : (a - 1).toNat = a.toNat - 1 := by omega
 have HKA := z9 hka
 have HKN : Hid (∀ W, Below w.heap.size w W → W.cell? ⟨gk, a.toNat - 1, none⟩ = some (.int .i64 q)) := fun W hb => by
  obtain ⟨cur, k1, k2⟩ := (hm.below hb).kn
  refine blk_cell k1 ?_
  have hkl : a.toNat - 1 < S.known.length := by rw [I.klen]; exact hk8
  rw [← Array.getElem?_toList, k2, List.getElem?_map, List.getElem?_eq_getElem hkl, hq]
  unfold kn
  rw [hka, List.getD_eq_getElem?_getD, List.getElem?_eq_getElem hkl]; rfl
 obtain ⟨po, no, co, hvo⟩ : ∃ p n c, vo = .slice p n c := by obtain ⟨L, _, e, _⟩ := hm.ops; obtain ⟨p, n, c, e2, _⟩ := own_shape e; exact ⟨p, n, c, e2⟩
 obtain ⟨pb, nb, cb, hvb⟩ : ∃ p n c, vb = .slice p n c := by obtain ⟨p, c, e, _⟩ := hm.book; exact ⟨_, _, _, e⟩
 obtain ⟨pm, nm, cm, hvm⟩ : ∃ p n c, vm = .slice p n c := by obtain ⟨p, c, e, _⟩ := hm.marks; exact ⟨_, _, _, e⟩
 have HNO : Hid (no = S.ops.length) := by
  obtain ⟨L, _, e, _⟩ := hm.ops
  obtain ⟨p, n, c, e2, e3⟩ := own_shape e
  rw [hvo] at e2
  injection e2 with _ e2 _
  exact e2.trans e3.out
 have HMM := z9 hm
 subst hvo hvb hvm
 have HBL : Hid (∀ W, Below w.heap.size w W → W.heap[E]? = some (.cells #[.slice pb nb cb, .slice pm nm cm, .slice (some ⟨gk, 0, none⟩) 8 8, .slice po no co] 118)) := fun W hb => (hm.below hb).blk
 have hi0 : 0 ≤ a - 1 := by omega
 have hi1 : a - 1 < 8 := by omega
 rw [← hq] at hkn
 have hkn2 : ¬ b ≤ q := by omega
 have hkn3 : ¬ q < b - 1 := by omega
 have hfz : ¬ (400 : Int) ≤ no := by have := HNO.out; omega
 have hf4 : no < 400 := by have := HNO.out; omega
 clear hd hi hp ho hm I hq hk8 hka hf hpc hdb hde hdm hdo hsw
 go_enter Tryz.func31, Tryz.ntmps31
 obtain ⟨o0, o1, o2, o3, o4, o5⟩ := H6.out
 go_wp2_with fail
 refine (COp.out _ HB1.out).mono ?_
 rintro e w2 ⟨rfl, hb2⟩
 have HB2 := z9 (bel HB1.out hb2)
 obtain ⟨o0, o1, o2, o3, o4, o5⟩ := H6.out.below hb2
 have HS2 := z9 (H6.out.below hb2)
 have x2 := blk_cell (HBL.out w2 HB2.out) (i := 2) (u := .slice (some ⟨gk, 0, none⟩) 8 8) rfl
 have xk := HKN.out w2 HB2.out
 clear hb2 COp H6 HB1
 go_wp2_with fail
 have hwr : IntKind.i64.wrap (a - 1) = a - 1 := wrap_in (by omega) (by omega)
 go_quiet (fail)
 generalize hwq : World.drewN _ _ = wq
 have HBq : Hid (Below w.heap.size w wq) := by rw [← hwq]; exact bel_drew HB2.out _
 have HSq : Hid (Six wq w.heap.size a b 3 p c vs) := by rw [← hwq]; exact HS2.out
 clear hwq o0 o1 o2 o3 o4 o5 x2 xk HS2
 obtain ⟨o0, o1, o2, o3, o4, o5⟩ := HSq.out
 have x3 := blk_cell (HBL.out wq HBq.out) (i := 3) (u := .slice po no co) rfl
 have x0 := blk_cell (HBL.out wq HBq.out) (i := 0) (u := .slice pb nb cb) rfl
 have x1 := blk_cell (HBL.out wq HBq.out) (i := 1) (u := .slice pm nm cm) rfl
 go_wp2_with fail
 refine (CS.out wq HBq.out).mono ?_
 rintro e w6 ⟨rfl, hb6⟩
 have HB6 := z9 (bel HBq.out hb6)
 have HS6 := z9 (HSq.out.below hb6)
 clear o0 o1 o2 o3 o4 o5 x0 x1 x3 hb6
 obtain ⟨o0, o1, o2, o3, o4, o5⟩ := HS6.out
 have x0 := blk_cell (HBL.out w6 HB6.out) (i := 0) (u := .slice pb nb cb) rfl
 have x1 := blk_cell (HBL.out w6 HB6.out) (i := 1) (u := .slice pm nm cm) rfl
 have x3 := blk_cell (HBL.out w6 HB6.out) (i := 3) (u := .slice po no co) rfl
 go_wp2_with fail
 go_region_held3 (fun W => W.cell? ⟨E, 1, none⟩ = some (.slice pm nm cm) ∧ W.cell? ⟨w.heap.size, 3, none⟩ = some (.string p) ∧ W.cell? ⟨w.heap.size, 0, none⟩ = some (.int .i64 a) ∧ W.cell? ⟨w.heap.size, 1, none⟩ = some (.int .i64 b)) (first | (go_keep; done) | (refine ⟨keep_cell hb7 ?_, keep_cell hb7 ?_, keep_cell hb7 ?_, keep_cell hb7 ?_⟩ <;> (go_split_ands; assumption))) (first
  | (go_at_call 65; refine (CC.out _ HB6.out.drew).mono ?_; rintro e w7 ⟨v7, rfl, hk7, hb7⟩; have HB7 := z9 (bel HB6.out.drew hb7); clear hk7))
 all_goals
  clear hb7
  go_wp2_with fail
  go_ret2
  exact RPost.no HAT.out HN.out HE.out HB7.out
theorem ap_cut_ok (B : Nat → Prop) (E : Nat) (S : Dq) (F : Nat → Prop) (a b : Int) (p : ByteArray) (c : Int) (vs : Value) (s : List Dt) (w : World) (h : RefAt B w E S F) (hd : DtsAt w vs s) (hi : In B vs) (hp : p.size ≤ maxLen) (ho : opE ((a, b), 3, p, c, s) = 0) (hpc : Pm.chk p.toList = 0) (hkn : kn S a + 1 = b) (hf : S.ops.length < 400) (hsw : saw S.ops p (a, b) = false) (hdo : doE S ((a, b), 3, p, c, s) = 0) :
  Calls Tryz.prog 31 #[.pointer (some ⟨E, 0, none⟩), .agg #[.int .i64 a, .int .i64 b, .int .i64 3, .string p, .int .i64 c, vs]] w (RPost B w E S F ((a, b), 3, p, c, s)) := by
 have HAT := z9 h
 obtain ⟨I, gk, vb, vm, vo, hm⟩ := h
 have HB1 : Hid (Below w.heap.size w (w.alloc (.cells #[.int .i64 a, .int .i64 b, .int .i64 3, .string p, .int .i64 c, vs] 75))) := (Below.refl _ w).alloc (Nat.le_refl _) _
 have H6 := z9 (six_new w a b 3 p c vs 75)
 have COp : Hid (∀ W, Below w.heap.size w W → Calls Tryz.prog 61 #[.agg #[.int .i64 a, .int .i64 b, .int .i64 3, .string p, .int .i64 c, vs]] W fun e w' => e = .returned (.int .i64 (opE ((a, b), 3, p, c, s))) ∧ Below W.heap.size W w') := fun W hb => Ob.op_ref a b 3 p c vs s W hp (hd.below hb)
 have hdb : doB S ((a, b), 3, p, c, s) = S.book := by unfold doB; rw [if_neg (by decide : ¬ (3 : Int) = 1), if_neg (by decide : ¬ (3 : Int) = 2)]
 have hde : doE S ((a, b), 3, p, c, s) = withM S.marks (p, (a, b)) := by unfold doE; rw [if_neg (by decide : ¬ (3 : Int) = 1), if_neg (by decide : ¬ (3 : Int) = 2), if_pos rfl]; simp only [hsw]; rfl
 have hdm : doM S ((a, b), 3, p, c, s) = ins mlt S.marks (p, (a, b)) := by unfold doM; rw [if_pos rfl]; simp only [hsw]; rfl
 have CC : Hid (∀ W, Below w.heap.size w W → Calls Tryz.prog 65 #[vm, .agg #[.string p, .int .i64 a, .int .i64 b]] W fun e w' => ∃ v', e = .returned (.tuple #[v', .int .i64 (doE S ((a, b), 3, p, c, s))]) ∧ (MksAt w' v' (Wd.withL S.marks (p, (a, b))) ∧ (v' = vm ∨ Lies w.heap.size v')) ∧ Below W.heap.size W w') := fun W hb => by
  rw [hde]
  exact (We.with_loc vm S.marks p a b W (hm.marks.below hb) (marksE_zero.1 I.marks).2.2 (marksE_zero.1 I.marks).1).mono fun e w' ⟨v', h1, h2, h3⟩ => ⟨v', h1, ⟨h2.1, h2.2.imp id fun h9 => h9.mono hb.size⟩, h3⟩
 have CS : Hid (∀ W, Below w.heap.size w W → Calls Tryz.prog 64 #[.pointer (some ⟨E, 0, none⟩), .string p, .agg #[.int .i64 a, .int .i64 b]] W fun e w' => e = .returned (.bool false) ∧ Below W.heap.size W w') := fun W hb => by
  rw [← hsw]
  exact Hb.seen_ref E vo S.ops p a b W (blk_cell (hm.below hb).blk rfl) (hm.below hb).ops.at (by have := I.few; omega) (fun x hx => Nat.le_trans (lawOf_zero.1 (opE_zero.1 (I.right x hx)).2.2.2).2.2.2.1 (by decide))
 have HWL : Hid (Wd.withL S.marks (p, (a, b)) = doM S ((a, b), 3, p, c, s)) := by unfold Hid Wd.withL; rw [hdm, if_pos (hde.symm.trans hdo)]
 have HDB := z9 hdb
 rw [hdo] at CC
 have HNEW := z9 (isNew_iff.2 ⟨ho, hkn, hf, hdo⟩)
 have HI := z9 I
 have HDD : Hid (∀ W, Below w.heap.size w W → DtsAt W vs s) := fun W hb => hd.below hb
 have HIN := z9 hi
 obtain ⟨ps, ns, cs, hvs⟩ : ∃ p n c, vs = .slice p n c := by obtain ⟨p, c, e, _⟩ := hd; exact ⟨_, _, _, e⟩
 subst hvs
 obtain ⟨i0, hi9, hz0, hz1, hz2⟩ := info_parts infoR
 rw [ho] at COp
 obtain ⟨d1, d2, d3, d4⟩ := dotE_iff.1 (opE_zero.1 ho).1
 simp only at d1 d2 d3 d4
 obtain ⟨q, hq⟩ : ∃ q, q = kn S a := ⟨_, rfl⟩
 have hk8 : a.toNat - 1 < 8 := by omega
 have hka : (a - 1).toNat = a.toNat - 1 := by omega
 have HKA := z9 hka
 have HKN : Hid (∀ W, Below w.heap.size w W → W.cell? ⟨gk, a.toNat - 1, none⟩ = some (.int .i64 q)) := fun W hb => by
  obtain ⟨cur, k1, k2⟩ := (hm.below hb).kn
  refine blk_cell k1 ?_
  have hkl : a.toNat - 1 < S.known.length := by rw [I.klen]; exact hk8
  rw [← Array.getElem?_toList, k2, List.getElem?_map, List.getElem?_eq_getElem hkl, hq]
  unfold kn
  rw [hka, List.getD_eq_getElem?_getD, List.getElem?_eq_getElem hkl]; rfl
 obtain ⟨po, no, co, hvo⟩ : ∃ p n c, vo = .slice p n c := by obtain ⟨L, _, e, _⟩ := hm.ops; obtain ⟨p, n, c, e2, _⟩ := own_shape e; exact ⟨p, n, c, e2⟩
 obtain ⟨pb, nb, cb, hvb⟩ : ∃ p n c, vb = .slice p n c := by obtain ⟨p, c, e, _⟩ := hm.book; exact ⟨_, _, _, e⟩
 obtain ⟨pm, nm, cm, hvm⟩ : ∃ p n c, vm = .slice p n c := by obtain ⟨p, c, e, _⟩ := hm.marks; exact ⟨_, _, _, e⟩
 have HNO : Hid (no = S.ops.length) := by
  obtain ⟨L, _, e, _⟩ := hm.ops
  obtain ⟨p, n, c, e2, e3⟩ := own_shape e
  rw [hvo] at e2
  injection e2 with _ e2 _
  exact e2.trans e3.out
 have HMM := z9 hm
 subst hvo hvb hvm
 have HBL : Hid (∀ W, Below w.heap.size w W → W.heap[E]? = some (.cells #[.slice pb nb cb, .slice pm nm cm, .slice (some ⟨gk, 0, none⟩) 8 8, .slice po no co] 118)) := fun W hb => (hm.below hb).blk
 have hi0 : 0 ≤ a - 1 := by omega
 have hi1 : a - 1 < 8 := by omega
 rw [← hq] at hkn
 have hkn2 : ¬ b ≤ q := by omega
 have hkn3 : ¬ q < b - 1 := by omega
 have hfz : ¬ (400 : Int) ≤ no := by have := HNO.out; omega
 have hf4 : no < 400 := by have := HNO.out; omega
 clear hd hi hp ho hm I hq hk8 hka hf hpc hdb hde hdm hdo hsw
 go_enter Tryz.func31, Tryz.ntmps31
 obtain ⟨o0, o1, o2, o3, o4, o5⟩ := H6.out
 go_wp2_with fail
 refine (COp.out _ HB1.out).mono ?_
 rintro e w2 ⟨rfl, hb2⟩
 have HB2 := z9 (bel HB1.out hb2)
 obtain ⟨o0, o1, o2, o3, o4, o5⟩ := H6.out.below hb2
 have HS2 := z9 (H6.out.below hb2)
 have x2 := blk_cell (HBL.out w2 HB2.out) (i := 2) (u := .slice (some ⟨gk, 0, none⟩) 8 8) rfl
 have xk := HKN.out w2 HB2.out
 clear hb2 COp H6 HB1
 go_wp2_with fail
 have hwr : IntKind.i64.wrap (a - 1) = a - 1 := wrap_in (by omega) (by omega)
 go_quiet (fail)
 generalize hwq : World.drewN _ _ = wq
 have HBq : Hid (Below w.heap.size w wq) := by rw [← hwq]; exact bel_drew HB2.out _
 have HSq : Hid (Six wq w.heap.size a b 3 p c (.slice ps ns cs)) := by rw [← hwq]; exact HS2.out
 clear hwq o0 o1 o2 o3 o4 o5 x2 xk HS2
 obtain ⟨o0, o1, o2, o3, o4, o5⟩ := HSq.out
 have x3 := blk_cell (HBL.out wq HBq.out) (i := 3) (u := .slice po no co) rfl
 have x0 := blk_cell (HBL.out wq HBq.out) (i := 0) (u := .slice pb nb cb) rfl
 have x1 := blk_cell (HBL.out wq HBq.out) (i := 1) (u := .slice pm nm cm) rfl
 go_wp2_with fail
 refine (CS.out wq HBq.out).mono ?_
 rintro e w6 ⟨rfl, hb6⟩
 have HB6 := z9 (bel HBq.out hb6)
 have HS6 := z9 (HSq.out.below hb6)
 clear o0 o1 o2 o3 o4 o5 x0 x1 x3 hb6
 obtain ⟨o0, o1, o2, o3, o4, o5⟩ := HS6.out
 have x0 := blk_cell (HBL.out w6 HB6.out) (i := 0) (u := .slice pb nb cb) rfl
 have x1 := blk_cell (HBL.out w6 HB6.out) (i := 1) (u := .slice pm nm cm) rfl
 have x3 := blk_cell (HBL.out w6 HB6.out) (i := 3) (u := .slice po no co) rfl
 go_wp2_with fail
 go_region_held3 (fun W => W.cell? ⟨E, 1, none⟩ = some (.slice pm nm cm) ∧ W.cell? ⟨w.heap.size, 3, none⟩ = some (.string p) ∧ W.cell? ⟨w.heap.size, 0, none⟩ = some (.int .i64 a) ∧ W.cell? ⟨w.heap.size, 1, none⟩ = some (.int .i64 b)) (first | (go_keep; done) | (refine ⟨keep_cell hb7 ?_, keep_cell hb7 ?_, keep_cell hb7 ?_, keep_cell hb7 ?_⟩ <;> (go_split_ands; assumption))) (first
  | (go_at_call 65; refine (CC.out _ HB6.out.drew).mono ?_; rintro e w7 ⟨v7, rfl, hk7, hb7⟩; obtain ⟨p7, n7, c7, rfl⟩ : ∃ p n c, v7 = .slice p n c := (by obtain ⟨⟨p, c, e, _⟩, _⟩ := hk7; exact ⟨_, _, _, e⟩); have HB7 := z9 (bel HB6.out.drew hb7); have HKB : Hid (BookAt w7 (.slice pb nb cb) (doB S ((a, b), 3, p, c, s)) ∧ In (Gn (News' F w w7) E gk (.slice po no co)) (.slice pb nb cb)) := ⟨(by rw [HDB.out]; exact HMM.out.book.below HB7.out), HMM.out.bookG.mono fun g hg => ⟨Or.inl hg.1, hg.2⟩⟩; have HKM : Hid (MksAt w7 (.slice p7 n7 c7) (doM S ((a, b), 3, p, c, s)) ∧ In (Gn (News' F w w7) E gk (.slice po no co)) (.slice p7 n7 c7)) := ⟨(by rw [← HWL.out]; exact hk7.1), with_in HMM.out hk7⟩; have HS7 := z9 (HS6.out.below (undrew hb7)); clear hk7))
 all_goals
  obtain ⟨HM8, HC8⟩ := ref_st3 (i := a.toNat - 1) (n := b) HMM.out HB7.out HKB.out.1 HKB.out.2 HKM.out.1 HKM.out.2
  have HBK7 := HMM.out.below HB7.out
  obtain ⟨cur, kc1, kc2⟩ := HBK7.kn
  have hEk : E ≠ gk := blk_ne HBK7.blk kc1 (by decide)
  have hkn8 : a.toNat - 1 < cur.size := by have h9 := congrArg List.length kc2; rw [List.length_map, HI.out.klen] at h9; have h8 : cur.toList.length = cur.size := (by simp); omega
  have HEL : Hid (E < w.heap.size ∧ gk < w.heap.size) := ⟨(HMM.out.lt _ (HMM.out.wr _ (Or.inl rfl))).2, (HMM.out.lt _ (HMM.out.wr _ (Or.inr (Or.inl rfl)))).2⟩
  have y0 := blk_cell HBK7.blk (i := 0) (u := .slice pb nb cb) rfl
  have g0 := blk_free HBK7.blk (i := 0)
  have hbA := set_heap (i := 0) (v := .slice pb nb cb) HBK7.blk
  have y1 := blk_cell hbA (i := 1) (u := .slice pm nm cm) rfl
  have g1 := blk_free hbA (i := 1)
  have hbB := set_heap (i := 1) (v := .slice p7 n7 c7) hbA
  have y2 := blk_cell hbB (i := 2) (u := .slice (some ⟨gk, 0, none⟩) 8 8) rfl
  have hkB : ((w7.setCell ⟨E, 0, none⟩ (.slice pb nb cb)).setCell ⟨E, 1, none⟩ (.slice p7 n7 c7)).heap[gk]? = some (.cells cur 3 (0, 0)) := by rw [set_block _ _ _ _ hEk.symm, set_block _ _ _ _ hEk.symm]; exact kc1
  have y4 := blk_cell hkB (i := a.toNat - 1) (u := cur[a.toNat - 1]) (Array.getElem?_eq_getElem hkn8)
  have g4 := blk_free hkB (i := a.toNat - 1)
  have HS8 : Hid (Six ((w7.setCell ⟨E, 0, none⟩ (.slice pb nb cb)).setCell ⟨E, 1, none⟩ (.slice p7 n7 c7)) w.heap.size a b 3 p c (.slice ps ns cs)) := mid_same HS7.out (by rw [set_block _ _ _ _ (by have := HEL.out.1; simp; omega), set_block _ _ _ _ (by have := HEL.out.1; simp; omega)])
  have HS9 : Hid (Six (st3 w7 E gk (a.toNat - 1) (.slice pb nb cb) (.slice p7 n7 c7) b) w.heap.size a b 3 p c (.slice ps ns cs)) := mid_same HS8.out (by unfold st3; rw [set_block _ _ _ _ (by have := HEL.out.2; simp; omega)])
  obtain ⟨r0, r1, _, _, _, _⟩ := HS8.out
  have HMM8 := z9 HM8
  have HCC8 := z9 HC8
  have y4d : ((w7.setCell ⟨E, 0, none⟩ (.slice pb nb cb)).setCell ⟨E, 1, none⟩ (.slice p7 n7 c7)).drew.cell? ⟨gk, a.toNat - 1, none⟩ = some cur[a.toNat - 1] := y4
  have g4d : ((w7.setCell ⟨E, 0, none⟩ (.slice pb nb cb)).setCell ⟨E, 1, none⟩ (.slice p7 n7 c7)).drew.frozen? ⟨gk, a.toNat - 1, none⟩ = false := g4
  have hBk : w.heap.size ≠ gk := by have := HEL.out.2; omega
  clear HM8 HC8 HBK7 kc1 kc2 hbA hbB hkB HS8 o0 o1 o2 o3 o4 o5 x0 x1 x3 hb7 y4 g4
  go_wp2_with fail
  go_region_held3 (fun W => W.cell? ⟨E, 2, none⟩ = some (.slice (some ⟨gk, 0, none⟩) 8 8) ∧ W.cell? ⟨w.heap.size, 0, none⟩ = some (.int .i64 a) ∧ W.cell? ⟨w.heap.size, 1, none⟩ = some (.int .i64 b)) (first | (refine ⟨(cell_set hEk).trans ?_, (cell_set hBk).trans ?_, (cell_set hBk).trans ?_⟩ <;> (go_split_ands; assumption)) | (go_keep; done)) (fail)
  generalize hw8 : World.setCell _ ⟨gk, a.toNat - 1, none⟩ _ = w8
  have hh : w8.heap = (st3 w7 E gk (a.toNat - 1) (.slice pb nb cb) (.slice p7 n7 c7) b).heap := by rw [← hw8]; rfl
  have HM9 : Hid (RefMem B w8 E gk (.slice pb nb cb) (.slice p7 n7 c7) (.slice po no co) ⟨doB S ((a, b), 3, p, c, s), doM S ((a, b), 3, p, c, s), S.known.set (a.toNat - 1) b, S.ops⟩ (News' F w w7)) := HMM8.out.stay (fun g _ => by rw [hh]) (by rw [hh]; exact Nat.le_refl _)
  have HC9 : Hid (Chg F w w8) := ⟨by rw [← hw8]; exact HCC8.out.os, by rw [← hw8]; exact HCC8.out.tape, by rw [← hw8]; exact HCC8.out.output, by rw [hh]; exact HCC8.out.size, fun g hg hf => by rw [hh]; exact HCC8.out.block g hg hf⟩
  have HSX := z9 (mid_same HS9.out (by rw [hh]))
  clear hw8 hh HMM8 HCC8 HS9 y0 g0 y1 g1 y2 y4d g4d r0 r1
  obtain ⟨L, hL, hLo, hLd⟩ := HM9.out.ops
  have HL1 := z9 hL
  have HL2 := z9 hLd
  have HLO : Hid (w8.ownsRow 0 75 6 (.slice po no co) no (flatO L)) := by have h9 : w8.ownsRow 0 75 6 (.slice po no co) S.ops.length (flatO L) := hLo; rw [← HNO.out] at h9; exact h9
  have HBA : Hid (∀ O, Below w8.heap.size w8 (w8.alloc O).drew.drew) := fun O => ((Below.refl _ w8).alloc (Nat.le_refl _) O).drew.drew
  have HOA : Hid (∀ O, (w8.alloc O).drew.drew.ownsRow 0 75 6 (.slice po no co) no (flatO L)) := fun O => own_below HLO.out (HBA.out O)
  have HEN : Hid (∀ O, (w8.alloc O).drew.drew.heap[E]? = some (.cells #[.slice pb nb cb, .slice p7 n7 c7, .slice (some ⟨gk, 0, none⟩) 8 8, .slice po no co] 118)) := fun O => (HM9.out.below (HBA.out O)).blk
  have q8 := fun O => blk_cell (HEN.out O) (i := 3) (u := .slice po no co) rfl
  have q7 : ∀ O, (w8.alloc O).cell? ⟨E, 3, none⟩ = some (.slice po no co) := q8
  have HD8 : Hid (DtsAt w8 (.slice ps ns cs) s) := dots_stay (HDD.out w (Below.refl _ _)) HIN.out (HC9.out.stay fun g hg => ⟨HMM.out.old g hg, fun e => (HMM.out.lt g e).1 hg⟩)
  have HDNE : Hid (∀ g, (Value.slice po no co).ownBlock = some g → g = E → False) := fun g hg e => by
   obtain ⟨_, cur2, hc⟩ := own_lt HLO.out g hg
   exact blk_ne hc HM9.out.blk (by decide) e
  have z3 := blk_cell HM9.out.blk (i := 3) (u := .slice po no co) rfl
  obtain ⟨o0, o1, o2, o3, o4, o5⟩ := HSX.out
  clear hL hLo hLd
  go_wp2_with fail
  go_region_law (
   (refine step_putO (by rfl) (.tmp 140) (.tmp 142) (by rfl) (.slice po no co) no L ((a, b), 3, p, c, s) ps ns cs (by rfl) w8.heap.size (by rfl) (by omega) (HOA.out _) (heap_alloc_new w8 _) ?_; intro v9 w9 hr9 hg9 hl9; obtain ⟨p9, n9, c9, rfl, _⟩ := own_shape hr9; have hbk9 := (blk_grown (HEN.out _) hg9 (fun e => HDNE.out E e rfl)); have q9 := blk_cell hbk9 (i := 3) (u := .slice po no co) rfl; have fq9 := blk_free hbk9 (i := 3); have HR9 := Hid.mk' hr9; have HG9 := Hid.mk' hg9; have HL9 := Hid.mk' hl9; clear hr9 hg9 hl9 hbk9))
  all_goals
   have HP : Hid (RPost B w E S F ((a, b), 3, p, c, s) (.returned (.tuple #[.bool true, .int .i64 0])) (w9.setCell ⟨E, 3, none⟩ (.slice p9 n9 c9))) := (ref_end (o := ((a, b), 3, p, c, s)) (F1 := News' F w w7) (vb := .slice pb nb cb) (vm := .slice p7 n7 c7) (vo := .slice po no co) (gk := gk) (L := L) HI.out HNEW.out HC9.out (fun g hg => hg.imp id And.left) (by have h9 := HM9.out; rw [← HKA.out] at h9; exact h9) HL1.out HL2.out (HBA.out _) HD8.out HIN.out HG9.out (by have h9 := HR9.out; rw [HNO.out] at h9; exact h9) HL9.out)
   clear HR9 HG9 HL9
   go_wp2_with fail
   go_ret2
   exact HP.out
theorem ap_join (B:Nat→Prop) (E:Nat) (S:Dq) (F:Nat→Prop) (a b:Int) (p:ByteArray) (c:Int) (vs:Value) (s:List Dt) (w:World) (h:RefAt B w E S F) (hd:DtsAt w vs s) (hi:In B vs) (hp:p.size≤maxLen) (ho:opE ((a,b),4,p,c,s)=0) (hpc:Pm.chk p.toList=0) (hkn:kn S a+1=b) (hf:S.ops.length<400)  :
  Calls Tryz.prog 31 #[.pointer (some ⟨E,0,none⟩),.agg #[.int .i64 a,.int .i64 b,.int .i64 4,.string p,.int .i64 c,vs]] w (RPost B w E S F ((a,b),4,p,c,s)):=by
 have HAT:=z9 h
 obtain⟨I,gk,vb,vm,vo,hm⟩:=h
 have HB1:Hid (Below w.heap.size w (w.alloc (.cells #[.int .i64 a,.int .i64 b,.int .i64 4,.string p,.int .i64 c,vs] 75))):=(Below.refl _ w).alloc (Nat.le_refl _) _
 have H6:=z9 (six_new w a b 4 p c vs 75)
 have COp:Hid (∀W,Below w.heap.size w W→Calls Tryz.prog 61 #[.agg #[.int .i64 a,.int .i64 b,.int .i64 4,.string p,.int .i64 c,vs]] W fun e w'=>e=.returned (.int .i64 (opE ((a,b),4,p,c,s)))∧Below W.heap.size W w'):=fun W hb=>Ob.op_ref a b 4 p c vs s W hp (hd.below hb)
 have hdb:doB S ((a,b),4,p,c,s)=S.book:=by unfold doB;rw[if_neg (by decide:¬(4:Int)=1),if_neg (by decide:¬(4:Int)=2)]
 have hdo:doE S ((a,b),4,p,c,s)=0:=by unfold doE;rw[if_neg (by decide:¬(4:Int)=1),if_neg (by decide:¬(4:Int)=2),if_neg (by decide:¬(4:Int)=3)]
 have hdm:doM S ((a,b),4,p,c,s)=without S.marks p s:=by unfold doM;rw[if_neg (by decide:¬(4:Int)=3),if_pos rfl]
 have hs40:s.length≤40:=(lawOf_zero.1 (opE_zero.1 ho).2.2.2).2.2.2.1
 have CC:Hid (∀W,Below w.heap.size w W→Calls Tryz.prog 66 #[vm,.string p,vs] W fun e w'=>∃v',e=.returned v'∧MksNew w.heap.size w' v' (doM S ((a,b),4,p,c,s))∧Below W.heap.size W w'):=fun W hb=>by
  rw[hdm]
  exact(We.without_loc vm S.marks p vs s W (hm.marks.below hb) (marksE_zero.1 I.marks).1 (hd.below hb) (by omega)).mono fun e w' ⟨v',h1,h2,h3⟩=>⟨v',h1,h2.mono hb.size,h3⟩
 have HDB:=z9 hdb
 have HNEW:=z9 (isNew_iff.2 ⟨ho,hkn,hf,hdo⟩)
 have HI:=z9 I
 have HDD:Hid (∀W,Below w.heap.size w W→DtsAt W vs s):=fun W hb=>hd.below hb
 have HIN:=z9 hi
 obtain⟨ps,ns,cs,hvs⟩:∃p n c,vs=.slice p n c:=by obtain⟨p,c,e,_⟩:=hd;exact⟨_,_,_,e⟩
 subst hvs
 obtain⟨i0,hi9,hz0,hz1,hz2⟩:=info_parts infoR
 rw[ho] at COp
 obtain⟨d1,d2,d3,d4⟩:=dotE_iff.1 (opE_zero.1 ho).1
 simp only at d1 d2 d3 d4
 obtain⟨q,hq⟩:∃q,q=kn S a:=⟨_,rfl⟩
 have hk8:a.toNat-1<8:=by omega
 have hka:(a-1).toNat=a.toNat-1:=by omega
 have HKA:=z9 hka
 have HKN:Hid (∀W,Below w.heap.size w W→W.cell? ⟨gk,a.toNat-1,none⟩=some (.int .i64 q)):=fun W hb=>by
  obtain⟨cur,k1,k2⟩:=(hm.below hb).kn
  refine blk_cell k1 ?_
  have hkl:a.toNat-1<S.known.length:=by rw[I.klen];exact hk8
  rw[←Array.getElem?_toList,k2,List.getElem?_map,List.getElem?_eq_getElem hkl,hq]
  unfold kn
  rw[hka,List.getD_eq_getElem?_getD,List.getElem?_eq_getElem hkl];rfl
 obtain⟨po,no,co,hvo⟩:∃p n c,vo=.slice p n c:=by obtain⟨L,_,e,_⟩:=hm.ops;obtain⟨p,n,c,e2,_⟩:=own_shape e;exact⟨p,n,c,e2⟩
 obtain⟨pb,nb,cb,hvb⟩:∃p n c,vb=.slice p n c:=by obtain⟨p,c,e,_⟩:=hm.book;exact⟨_,_,_,e⟩
 obtain⟨pm,nm,cm,hvm⟩:∃p n c,vm=.slice p n c:=by obtain⟨p,c,e,_⟩:=hm.marks;exact⟨_,_,_,e⟩
 have HNO:Hid (no=S.ops.length):=by
  obtain⟨L,_,e,_⟩:=hm.ops
  obtain⟨p,n,c,e2,e3⟩:=own_shape e
  rw[hvo] at e2
  injection e2 with _ e2 _
  exact e2.trans e3.out
 have HMM:=z9 hm
 subst hvo hvb hvm
 have HBL:Hid (∀W,Below w.heap.size w W→W.heap[E]? =some (.cells #[.slice pb nb cb,.slice pm nm cm,.slice (some ⟨gk,0,none⟩) 8 8,.slice po no co] 118)):=fun W hb=>(hm.below hb).blk
 have hi0:0≤a-1:=by omega
 have hi1:a-1<8:=by omega
 rw[←hq] at hkn
 have hkn2:¬b≤q:=by omega
 have hkn3:¬q<b-1:=by omega
 have hfz:¬(400:Int)≤no:=by have:=HNO.out;omega
 have hf4:no<400:=by have:=HNO.out;omega
 clear hd hi hp ho hm I hq hk8 hka hf hpc hdb hdm hdo hs40
 go_enter Tryz.func31,Tryz.ntmps31
 obtain⟨o0,o1,o2,o3,o4,o5⟩:=H6.out
 go_wp2_with fail
 refine(COp.out _ HB1.out).mono ?_
 rintro e w2 ⟨rfl,hb2⟩
 have HB2:=z9 (bel HB1.out hb2)
 obtain⟨o0,o1,o2,o3,o4,o5⟩:=H6.out.below hb2
 have HS2:=z9 (H6.out.below hb2)
 have x2:=blk_cell (HBL.out w2 HB2.out) (i:=2) (u:=.slice (some ⟨gk,0,none⟩) 8 8) rfl
 have xk:=HKN.out w2 HB2.out
 clear hb2 COp H6 HB1
 go_wp2_with fail
 have hwr:IntKind.i64.wrap (a-1)=a-1:=wrap_in (by omega) (by omega)
 go_quiet (fail)
 generalize hwq:World.drewN _ _=wq
 have HBq:Hid (Below w.heap.size w wq):=by rw[←hwq];exact bel_drew HB2.out _
 have HSq:Hid (Six wq w.heap.size a b 4 p c (.slice ps ns cs)):=by rw[←hwq];exact HS2.out
 clear hwq o0 o1 o2 o3 o4 o5 x2 xk HS2
 obtain⟨o0,o1,o2,o3,o4,o5⟩:=HSq.out
 have x3:=blk_cell (HBL.out wq HBq.out) (i:=3) (u:=.slice po no co) rfl
 have x0:=blk_cell (HBL.out wq HBq.out) (i:=0) (u:=.slice pb nb cb) rfl
 have x1:=blk_cell (HBL.out wq HBq.out) (i:=1) (u:=.slice pm nm cm) rfl
 go_wp2_with fail
 go_region_held3 (fun W=>W.cell? ⟨E,1,none⟩=some (.slice pm nm cm)∧W.cell? ⟨w.heap.size,3,none⟩=some (.string p)∧W.cell? ⟨w.heap.size,5,none⟩=some (.slice ps ns cs)) (first | (go_keep;done) | (refine⟨keep_cell hb7 ?_,keep_cell hb7 ?_,keep_cell hb7 ?_⟩<;>(go_split_ands;assumption))) (first
  | (go_at_call 66;refine(CC.out _ HBq.out.drew).mono ?_;rintro e w7 ⟨v7,rfl,hk7,hb7⟩;obtain⟨p7,n7,c7,rfl⟩:∃p n c,v7=.slice p n c:=(by obtain⟨⟨p,c,e,_⟩,_⟩:=hk7;exact⟨_,_,_,e⟩);have HB7:=z9 (bel HBq.out.drew hb7);have HKB:Hid (BookAt w7 (.slice pb nb cb) (doB S ((a,b),4,p,c,s))∧In (Gn (News' F w w7) E gk (.slice po no co)) (.slice pb nb cb)):=⟨(by rw[HDB.out];exact HMM.out.book.below HB7.out),HMM.out.bookG.mono fun g hg=>⟨Or.inl hg.1,hg.2⟩⟩;have HKM:Hid (MksAt w7 (.slice p7 n7 c7) (doM S ((a,b),4,p,c,s))∧In (Gn (News' F w w7) E gk (.slice po no co)) (.slice p7 n7 c7)):=⟨hk7.1,with_in HMM.out ⟨hk7.1,Or.inr hk7.2⟩⟩;have HS7:=z9 (HSq.out.below (undrew hb7));clear hk7))
 all_goals
  obtain⟨HM8,HC8⟩:=ref_st3 (i:=a.toNat-1) (n:=b) HMM.out HB7.out HKB.out.1 HKB.out.2 HKM.out.1 HKM.out.2
  have HBK7:=HMM.out.below HB7.out
  obtain⟨cur,kc1,kc2⟩:=HBK7.kn
  have hEk:E≠gk:=blk_ne HBK7.blk kc1 (by decide)
  have hkn8:a.toNat-1<cur.size:=by have h9:=congrArg List.length kc2;rw[List.length_map,HI.out.klen] at h9;have h8:cur.toList.length=cur.size:=(by simp);omega
  have HEL:Hid (E<w.heap.size∧gk<w.heap.size):=⟨(HMM.out.lt _ (HMM.out.wr _ (Or.inl rfl))).2,(HMM.out.lt _ (HMM.out.wr _ (Or.inr (Or.inl rfl)))).2⟩
  have y0:=blk_cell HBK7.blk (i:=0) (u:=.slice pb nb cb) rfl
  have g0:=blk_free HBK7.blk (i:=0)
  have hbA:=set_heap (i:=0) (v:=.slice pb nb cb) HBK7.blk
  have y1:=blk_cell hbA (i:=1) (u:=.slice pm nm cm) rfl
  have g1:=blk_free hbA (i:=1)
  have hbB:=set_heap (i:=1) (v:=.slice p7 n7 c7) hbA
  have y2:=blk_cell hbB (i:=2) (u:=.slice (some ⟨gk,0,none⟩) 8 8) rfl
  have hkB:((w7.setCell ⟨E,0,none⟩ (.slice pb nb cb)).setCell ⟨E,1,none⟩ (.slice p7 n7 c7)).heap[gk]? =some (.cells cur 3 (0,0)):=by rw[set_block _ _ _ _ hEk.symm,set_block _ _ _ _ hEk.symm];exact kc1
  have y4:=blk_cell hkB (i:=a.toNat-1) (u:=cur[a.toNat-1]) (Array.getElem?_eq_getElem hkn8)
  have g4:=blk_free hkB (i:=a.toNat-1)
  have HS8:Hid (Six ((w7.setCell ⟨E,0,none⟩ (.slice pb nb cb)).setCell ⟨E,1,none⟩ (.slice p7 n7 c7)) w.heap.size a b 4 p c (.slice ps ns cs)):=mid_same HS7.out (by rw[set_block _ _ _ _ (by have:=HEL.out.1;simp;omega),set_block _ _ _ _ (by have:=HEL.out.1;simp;omega)])
  have HS9:Hid (Six (st3 w7 E gk (a.toNat-1) (.slice pb nb cb) (.slice p7 n7 c7) b) w.heap.size a b 4 p c (.slice ps ns cs)):=mid_same HS8.out (by unfold st3;rw[set_block _ _ _ _ (by have:=HEL.out.2;simp;omega)])
  obtain⟨r0,r1,_,_,_,_⟩:=HS8.out
  have HMM8:=z9 HM8
  have HCC8:=z9 HC8
  have y4d:((w7.setCell ⟨E,0,none⟩ (.slice pb nb cb)).setCell ⟨E,1,none⟩ (.slice p7 n7 c7)).drew.cell? ⟨gk,a.toNat-1,none⟩=some cur[a.toNat-1]:=y4
  have g4d:((w7.setCell ⟨E,0,none⟩ (.slice pb nb cb)).setCell ⟨E,1,none⟩ (.slice p7 n7 c7)).drew.frozen? ⟨gk,a.toNat-1,none⟩=false:=g4
  have hBk:w.heap.size≠gk:=by have:=HEL.out.2;omega
  clear HM8 HC8 HBK7 kc1 kc2 hbA hbB hkB HS8 o0 o1 o2 o3 o4 o5 x0 x1 x3 hb7 y4 g4
  go_wp2_with fail
  go_region_held3 (fun W=>W.cell? ⟨E,2,none⟩=some (.slice (some ⟨gk,0,none⟩) 8 8)∧W.cell? ⟨w.heap.size,0,none⟩=some (.int .i64 a)∧W.cell? ⟨w.heap.size,1,none⟩=some (.int .i64 b)) (first | (refine⟨(cell_set hEk).trans ?_,(cell_set hBk).trans ?_,(cell_set hBk).trans ?_⟩<;>(go_split_ands;assumption)) | (go_keep;done)) (fail)
  generalize hw8:World.setCell _ ⟨gk,a.toNat-1,none⟩ _=w8
  have hh:w8.heap=(st3 w7 E gk (a.toNat-1) (.slice pb nb cb) (.slice p7 n7 c7) b).heap:=by rw[←hw8];rfl
  have HM9:Hid (RefMem B w8 E gk (.slice pb nb cb) (.slice p7 n7 c7) (.slice po no co) ⟨doB S ((a,b),4,p,c,s),doM S ((a,b),4,p,c,s),S.known.set (a.toNat-1) b,S.ops⟩ (News' F w w7)):=HMM8.out.stay (fun g _=>by rw[hh]) (by rw[hh];exact Nat.le_refl _)
  have HC9:Hid (Chg F w w8):=⟨by rw[←hw8];exact HCC8.out.os,by rw[←hw8];exact HCC8.out.tape,by rw[←hw8];exact HCC8.out.output,by rw[hh];exact HCC8.out.size,fun g hg hf=>by rw[hh];exact HCC8.out.block g hg hf⟩
  have HSX:=z9 (mid_same HS9.out (by rw[hh]))
  clear hw8 hh HMM8 HCC8 HS9 y0 g0 y1 g1 y2 y4d g4d r0 r1
  obtain⟨L,hL,hLo,hLd⟩:=HM9.out.ops
  have HL1:=z9 hL
  have HL2:=z9 hLd
  have HLO:Hid (w8.ownsRow 0 75 6 (.slice po no co) no (flatO L)):=by have h9:w8.ownsRow 0 75 6 (.slice po no co) S.ops.length (flatO L):=hLo;rw[←HNO.out] at h9;exact h9
  have HBA:Hid (∀O,Below w8.heap.size w8 (w8.alloc O).drew.drew):=fun O=>((Below.refl _ w8).alloc (Nat.le_refl _) O).drew.drew
  have HOA:Hid (∀O,(w8.alloc O).drew.drew.ownsRow 0 75 6 (.slice po no co) no (flatO L)):=fun O=>own_below HLO.out (HBA.out O)
  have HEN:Hid (∀O,(w8.alloc O).drew.drew.heap[E]? =some (.cells #[.slice pb nb cb,.slice p7 n7 c7,.slice (some ⟨gk,0,none⟩) 8 8,.slice po no co] 118)):=fun O=>(HM9.out.below (HBA.out O)).blk
  have q8:=fun O=>blk_cell (HEN.out O) (i:=3) (u:=.slice po no co) rfl
  have q7:∀O,(w8.alloc O).cell? ⟨E,3,none⟩=some (.slice po no co):=q8
  have HD8:Hid (DtsAt w8 (.slice ps ns cs) s):=dots_stay (HDD.out w (Below.refl _ _)) HIN.out (HC9.out.stay fun g hg=>⟨HMM.out.old g hg,fun e=>(HMM.out.lt g e).1 hg⟩)
  have HDNE:Hid (∀g,(Value.slice po no co).ownBlock=some g→g=E→False):=fun g hg e=>by
   obtain⟨_,cur2,hc⟩:=own_lt HLO.out g hg
   exact blk_ne hc HM9.out.blk (by decide) e
  have z3:=blk_cell HM9.out.blk (i:=3) (u:=.slice po no co) rfl
  obtain⟨o0,o1,o2,o3,o4,o5⟩:=HSX.out
  clear hL hLo hLd
  go_wp2_with fail
  go_region_law (
   (refine step_putO (by rfl) (.tmp 140) (.tmp 142) (by rfl) (.slice po no co) no L ((a,b),4,p,c,s) ps ns cs (by rfl) w8.heap.size (by rfl) (by omega) (HOA.out _) (heap_alloc_new w8 _) ?_;intro v9 w9 hr9 hg9 hl9;obtain⟨p9,n9,c9,rfl,_⟩:=own_shape hr9;have hbk9:=(blk_grown (HEN.out _) hg9 (fun e=>HDNE.out E e rfl));have q9:=blk_cell hbk9 (i:=3) (u:=.slice po no co) rfl;have fq9:=blk_free hbk9 (i:=3);have HR9:=Hid.mk' hr9;have HG9:=Hid.mk' hg9;have HL9:=Hid.mk' hl9;clear hr9 hg9 hl9 hbk9))
  all_goals
   have HP:Hid (RPost B w E S F ((a,b),4,p,c,s) (.returned (.tuple #[.bool true,.int .i64 0])) (w9.setCell ⟨E,3,none⟩ (.slice p9 n9 c9))):=(ref_end (o:=((a,b),4,p,c,s)) (F1:=News' F w w7) (vb:=.slice pb nb cb) (vm:=.slice p7 n7 c7) (vo:=.slice po no co) (gk:=gk) (L:=L) HI.out HNEW.out HC9.out (fun g hg=>hg.imp id And.left) (by have h9:=HM9.out;rw[←HKA.out] at h9;exact h9) HL1.out HL2.out (HBA.out _) HD8.out HIN.out HG9.out (by have h9:=HR9.out;rw[HNO.out] at h9;exact h9) HL9.out)
   clear HR9 HG9 HL9
   go_wp2_with fail
   go_ret2
   exact HP.out
/- Apply, at every op -/
theorem apply_ref (B:Nat→Prop) (E:Nat) (S:Dq) (F:Nat→Prop) (a b t:Int) (p:ByteArray) (c:Int) (vs:Value) (s:List Dt) (w:World) (h:RefAt B w E S F) (hd:DtsAt w vs s) (hi:In B vs) (hp:p.size≤maxLen):
  Calls Tryz.prog 31 #[.pointer (some ⟨E,0,none⟩),.agg #[.int .i64 a,.int .i64 b,.int .i64 t,.string p,.int .i64 c,vs]] w (RPost B w E S F ((a,b),t,p,c,s)):=by
 by_cases ho:opE ((a,b),t,p,c,s)=0
 ·obtain⟨e1,e2,e3,e4⟩:=opE_zero.1 ho
  simp only at e1 e2 e3 e4
  by_cases hk:b≤kn S a
  ·exact ap_known B E S F a b t p c vs s w h hd hi hp ho hk
  ·by_cases hs:kn S a<b-1
   ·exact ap_state B E S F a b t p c vs s w h hd hi hp ho hs
   ·by_cases hf:400≤S.ops.length
    ·exact ap_full B E S F a b t p c vs s w h hd hi hp ho (by omega) hf
    ·have hk1:kn S a+1=b:=by omega
     have hf1:S.ops.length<400:=by omega
     have ht:t=1∨t=2∨t=3∨t=4:=by omega
     rcases ht with rfl | rfl | rfl | rfl
     ·by_cases hdo:doE S ((a,b),1,p,c,s)=0
      ·exact ap_write_ok B E S F a b p c vs s w h hd hi hp ho e3 hk1 hf1 hdo
      ·exact ap_write_no B E S F a b p c vs s w h hd hi hp ho e3 hk1 hf1 _ rfl hdo
     ·by_cases hdo:doE S ((a,b),2,p,c,s)=0
      ·exact ap_strike_ok B E S F a b p c vs s w h hd hi hp ho e3 hk1 hf1 hdo
      ·exact ap_strike_no B E S F a b p c vs s w h hd hi hp ho e3 hk1 hf1 _ rfl hdo
     ·by_cases hdo:doE S ((a,b),3,p,c,s)=0
      ·cases hsw:saw S.ops p (a,b)
       ·exact ap_cut_ok B E S F a b p c vs s w h hd hi hp ho e3 hk1 hf1 hsw hdo
       ·exact ap_cut_gone B E S F a b p c vs s w h hd hi hp ho e3 hk1 hf1 hdo hsw
      ·cases hsw:saw S.ops p (a,b)
       ·exact ap_cut_no B E S F a b p c vs s w h hd hi hp ho e3 hk1 hf1 hsw _ rfl hdo
       ·exfalso
        apply hdo
        unfold doE
        rw[if_neg (by decide:¬(3:Int)=1),if_neg (by decide:¬(3:Int)=2),if_pos rfl]
        simp only[hsw,if_true]
     ·exact ap_join B E S F a b p c vs s w h hd hi hp ho e3 hk1 hf1
 ·exact ap_wrong B E S F a b t p c vs s w h hd hi hp _ rfl ho
end Xs
end Go.Proofs.YtlmdchpbpgcfmaaGreatDoor
