/- The walk of DocPlays. -/
import Derived.Test.YtnniggjeadlbgaaGreatDoorIq
import Derived.Test.YtnniggjeadlbgaaGreatDoorXf
import Derived.Test.YtnniggjeadlbgaaGreatDoorJ14
namespace Go.Proofs.YtnniggjeadlbgaaGreatDoor
namespace Xg
set_option linter.unusedVariables false
set_option linter.unusedSimpArgs false
open Go.ChangeShapes Go.WideShapes Go.ChangeAt Go.RowKit Cm Ka Kb Na Om Oa Oz Oc Og Oi Hm Ia Ib Ic Idc Ie If Ig Ih Ii Ij Ik Il Im Iq Xa
open La (bel bel_drew errV_zero errV_ne own_ge own_grow own_below Lies)
open Lj (BookAt BookNew)
open Kt (ET)

theorem in_old {w : World} {v : Value} {l : List Dt} (h : DtsAt w v l) : In (fun g => g < w.heap.size) v := fun a n c e hn => by
  obtain ⟨q, c2, hv, hin, _⟩ := h
  rw [e] at hv
  injection hv with e1 e2 e3
  rcases hin with e0 | ⟨bb, oo, hp9, hcs⟩
  · rw [e0] at e2; simp at e2; omega
  · rw [hp9] at e1
    injection e1 with e1
    rw [e1]
    exact (hcs 0 (by omega)).lt
/- the reference's parts, at whatever world behind -/
structure Parts (w : World) (E : Nat) (S : Dq) (pb : Option Addr) (nb cb : Nat) (pm : Option Addr) (nm cm gk : Nat) (po : Option Addr) (no co : Nat) : Prop where
  c0 : ∀ W, Below w.heap.size w W → W.cell? ⟨E, 0, none⟩ = some (.slice pb nb cb)
  c1 : ∀ W, Below w.heap.size w W → W.cell? ⟨E, 1, none⟩ = some (.slice pm nm cm)
  c2 : ∀ W, Below w.heap.size w W → W.cell? ⟨E, 2, none⟩ = some (.slice (some ⟨gk, 0, none⟩) 8 8)
  c3 : ∀ W, Below w.heap.size w W → W.cell? ⟨E, 3, none⟩ = some (.slice po no co)
  book : ∀ W, Below w.heap.size w W → BookAt W (.slice pb nb cb) S.book
  marks : ∀ W, Below w.heap.size w W → MksAt W (.slice pm nm cm) S.marks
  known : ∀ W, Below w.heap.size w W → Za.IntsIn W (some ⟨gk, 0, none⟩) S.known
  ops : ∀ W, Below w.heap.size w W → OpsAt W (.slice po no co) S.ops
theorem RefAt.parts {B : Nat} {w : World} {E : Nat} {S : Dq} {F : Nat → Prop} (h : RefAt B w E S F) : ∃ pb nb cb pm nm cm gk po no co, Parts w E S pb nb cb pm nm cm gk po no co := by
  obtain ⟨I, gk, vb, vm, vo, hm⟩ := h
  obtain ⟨po, no, co, hvo⟩ : ∃ p n c, vo = .slice p n c := by obtain ⟨L, _, e, _⟩ := hm.ops; obtain ⟨p, n, c, e2, _⟩ := own_shape e; exact ⟨p, n, c, e2⟩
  obtain ⟨pb, nb, cb, hvb⟩ : ∃ p n c, vb = .slice p n c := by obtain ⟨p, c, e, _⟩ := hm.book; exact ⟨_, _, _, e⟩
  obtain ⟨pm, nm, cm, hvm⟩ : ∃ p n c, vm = .slice p n c := by obtain ⟨p, c, e, _⟩ := hm.marks; exact ⟨_, _, _, e⟩
  subst hvo hvb hvm
  refine ⟨pb, nb, cb, pm, nm, cm, gk, po, no, co, fun W hb => blk_cell (hm.below hb).blk rfl, fun W hb => blk_cell (hm.below hb).blk rfl, fun W hb => blk_cell (hm.below hb).blk rfl, fun W hb => blk_cell (hm.below hb).blk rfl, fun W hb => (hm.below hb).book, fun W hb => (hm.below hb).marks, fun W hb => ?_, fun W hb => (hm.below hb).ops.at⟩
  obtain ⟨cur, k1, k2⟩ := (hm.below hb).kn
  refine Or.inr ⟨gk, 0, rfl, fun j hj => ?_⟩
  rw [Nat.zero_add]
  refine blk_cell k1 ?_
  rw [← Array.getElem?_toList, k2, List.getElem?_map, List.getElem?_eq_getElem hj, List.getD_eq_getElem?_getD, List.getElem?_eq_getElem hj]; rfl

set_option maxRecDepth 100000 in
set_option maxHeartbeats 8000000 in
theorem walk (vl : Value) (l : List Ox) (w : World) (hl : OpsAt w vl l) (hsz : ∀ x ∈ l, x.2.2.1.size ≤ maxLen) (hg : ET w) :
    Calls Tryz.prog 3 #[vl] w fun e w' => e = .returned (.bool true) ∧ Below w.heap.size w w' := by
  obtain ⟨ql, cl, rfl, hlin, _⟩ := hl
  obtain ⟨n, hn⟩ : ∃ n, n = l.length := ⟨_, rfl⟩
  rw [← hn]
  have HN : Hid (l.length = n) := hn.symm
  have HLI : Hid (OpsIn w ql l) := hlin
  have HSZ : Hid (∀ x ∈ l, x.2.2.1.size ≤ maxLen) := hsz
  have HG : Hid (ET w) := hg
  clear hlin hsz hn hg
  go_enter Tryz.func3, Tryz.ntmps3
  go_wp2_with fail
  refine (new_any w).mono ?_
  rintro e w1 ⟨D, F1, rfl, hd1, hf1, hb1⟩
  have HD1 : Hid (DocAt w1 D (run l 0) F1) := hd1
  have HF1 : Hid (∀ g, F1 g → w.heap.size ≤ g) := hf1
  have HB1 : Hid (Below w.heap.size w w1) := hb1
  clear hd1 hf1 hb1
  go_wp2_with fail
  refine (Xb.new_ref w.heap.size w1 HB1.out.size).mono ?_
  rintro e w2 ⟨E, F2, rfl, hd2, hf2, hb2⟩
  have HE2 : Hid (RefAt w.heap.size w2 E (run l 0) F2) := hd2
  have HD2 : Hid (DocAt w2 D (run l 0) F1) := HD1.out.below hb2
  have HX2 : Hid (∀ g, F2 g → ¬ F1 g) := fun g h2 h1 => by have := hf2 g h2; have := HD1.out.lt g h1; omega
  have HB2 : Hid (Below w.heap.size w w2) := bel HB1.out hb2
  clear hd2 hf2 hb2 HD1 HB1
  go_wp2_with fail
  go_loopw [5] (fun vi wr => ∃ (k : Nat) (Fd Fr : Nat → Prop), k ≤ n ∧ k ≤ 60 ∧ vi = .int .i64 k ∧ Hid (DocAt wr D (run l k) Fd) ∧ Hid (RefAt w.heap.size wr E (run l k) Fr) ∧ Hid (∀ g, Fd g → w.heap.size ≤ g) ∧ Hid (∀ g, Fr g → ¬ Fd g) ∧ Hid (Below w.heap.size w wr)) (fun vi _ => 60 - (intOf vi).toNat)
  case atStart => exact ⟨0, F1, F2, by omega, by omega, rfl, HD2, HE2, HF1, HX2, HB2⟩
  case round =>
    clear HD2 HE2 HF1 HX2 HB2
    obtain ⟨k, Fd, Fr, hk, hk60, rfl, HDk, HEk, HFk, HXk, HBk⟩ := hrel
    by_cases hlt1 : k < n
    · have hltz : (k : Int) < n := by omega
      by_cases hlt2 : k < 60
      · have hltz2 : (k : Int) < 60 := by omega
        have hkl : k < l.length := by rw [HN.out]; exact hlt1
        obtain ⟨bo, oo, rfl, hc⟩ := HLI.out.some (by intro e; rw [e] at hkl; simp at hkl)
        have ha0 := hc k hkl
        have hxm := HSZ.out _ (getO_mem hkl)
        have HRN : Hid (run l (k + 1) = apS (run l k) (l.getD k oz)) := run_next hkl
        obtain ⟨x, hx⟩ : ∃ x, x = l.getD k oz := ⟨_, rfl⟩
        rw [← hx] at ha0 hxm HRN
        obtain ⟨⟨xa, xb⟩, xt, xp, xc, xs⟩ := x
        obtain ⟨vx, ⟨g0, g1, g2, g3, g4, g5⟩, hdx0⟩ := ha0
        simp only at g0 g1 g2 g3 g4 g5 hdx0 hxm
        obtain ⟨pv, nv, cv, rfl⟩ : ∃ pv nv cv, vx = .slice pv nv cv := by obtain ⟨_, _, e9, _⟩ := hdx0; exact ⟨_, _, _, e9⟩
        have HSX : Hid (∀ W, Below w.heap.size w W → W.cell? ⟨bo, oo + k * 6, none⟩ = some (.int .i64 xa) ∧ W.cell? ⟨bo, oo + k * 6 + 1, none⟩ = some (.int .i64 xb) ∧ W.cell? ⟨bo, oo + k * 6 + 2, none⟩ = some (.int .i64 xt) ∧ W.cell? ⟨bo, oo + k * 6 + 3, none⟩ = some (.string xp) ∧ W.cell? ⟨bo, oo + k * 6 + 4, none⟩ = some (.int .i64 xc) ∧ W.cell? ⟨bo, oo + k * 6 + 5, none⟩ = some (.slice pv nv cv)) := fun W hb => ⟨keep_cell hb g0, keep_cell hb g1, keep_cell hb g2, keep_cell hb g3, keep_cell hb g4, keep_cell hb g5⟩
        have HDX : Hid (DtsAt w (.slice pv nv cv) xs ∧ xp.size ≤ maxLen) := ⟨hdx0, hxm⟩
        have CR := Xf.apply_ref w.heap.size E (run l k) Fr xa xb xt xp xc (.slice pv nv cv) xs wr HEk.out (hdx0.below HBk.out) (in_old hdx0) hxm
        obtain ⟨a0, a1, a2, a3, a4, a5⟩ := HSX.out wr HBk.out
        clear hc hx hkl hxm hdx0 g0 g1 g2 g3 g4 g5
        go_wp2_with fail
        refine CR.mono ?_
        rintro e w3 ⟨he, F3, hd3, hc3, hf3⟩
        have HFR : Hid (∀ g, Fr g → w.heap.size ≤ g) := fun g hg => (HEk.out.lt g hg).1
        have HE3 : Hid (RefAt w.heap.size w3 E (run l (k + 1)) F3) := by unfold Hid; rw [HRN.out]; exact hd3
        have HB3 : Hid (Below w.heap.size w w3) := hc3.below HFR.out HBk.out HBk.out.size
        have HD3 : Hid (DocAt w3 D (run l k) Fd) := HDk.out.chg hc3 (fun g h1 h2 => HXk.out g h2 h1)
        have HX3 : Hid (∀ g, F3 g → ¬ Fd g) := fun g h1 h2 => by
          rcases hf3 g h1 with e9 | e9
          · exact HXk.out g e9 h2
          · have := HDk.out.lt g h2; omega
        obtain ⟨nw, hnw⟩ : ∃ nw, nw = isNew (run l k) ((xa, xb), xt, xp, xc, xs) := ⟨_, rfl⟩
        obtain ⟨q, hq⟩ : ∃ q, q = apE (run l k) ((xa, xb), xt, xp, xc, xs) := ⟨_, rfl⟩
        have HNW : Hid (nw = isNew (run l k) ((xa, xb), xt, xp, xc, xs)) := hnw
        have HQ : Hid (q = apE (run l k) ((xa, xb), xt, xp, xc, xs)) := hq
        rw [← hnw, ← hq] at he
        subst he
        have CD := apply_any D (run l k) Fd xa xb xt xp xc (.slice pv nv cv) xs w3 HD3.out (HDX.out.1.below HB3.out) (off_old HDX.out.1 HFk.out) HDX.out.2
        clear hd3 hc3 hf3 CR a0 a1 a2 a3 a4 a5 hnw hq
        obtain ⟨a0, a1, a2, a3, a4, a5⟩ := HSX.out w3 HB3.out
        go_wp2_with fail
        refine CD.mono ?_
        rintro e w4 ⟨he, _, F4, hd4, hc4, hf4⟩
        rw [← HNW.out, ← HQ.out] at he
        subst he
        have HD4 : Hid (DocAt w4 D (run l (k + 1)) F4) := by unfold Hid; rw [HRN.out]; exact hd4
        have HB4 : Hid (Below w.heap.size w w4) := hc4.below HFk.out HB3.out HB3.out.size
        have HF4 : Hid (∀ g, F4 g → w.heap.size ≤ g) := fun g hg => by
          rcases hf4 g hg with e9 | e9
          · exact HFk.out g e9
          · exact Nat.le_trans HB3.out.size e9
        have HE4 : Hid (RefAt w.heap.size w4 E (run l (k + 1)) F3) := HE3.out.chg hc4 HFk.out HX3.out
        have HX4 : Hid (∀ g, F3 g → ¬ F4 g) := fun g h1 h2 => by
          rcases hf4 g h2 with e9 | e9
          · exact HX3.out g h1 e9
          · have := (HE3.out.lt g h1).2; omega
        have CE := Kl.same_any q q w4 (Kl.ET.below HG.out HB4.out)
        rw [show (q == q) = true by simp] at CE
        clear hd4 hc4 hf4 CD a0 a1 a2 a3 a4 a5
        go_wp2_with fail
        refine CE.mono ?_
        rintro e w5 ⟨rfl, hb5⟩
        have HB5 : Hid (Below w4.heap.size w4 w5) := hb5
        obtain ⟨pb, nb, cb, pm, nm, cm, gk, po, no, co, hps⟩ := RefAt.parts HE4.out
        have HP : Hid (Parts w4 E (run l (k + 1)) pb nb cb pm nm cm gk po no co) := hps
        have HI : Hid (Inv (run l (k + 1))) := HE4.out.inv
        have CB : Hid (∀ W, Below w4.heap.size w4 W → Calls Tryz.prog 15 #[.pointer (some ⟨D, 0, none⟩)] W fun e w' => ∃ v', e = .returned v' ∧ BookAt w' v' (run l (k + 1)).book ∧ Below W.heap.size W w') := fun W hb => (book_get D _ _ W (HD4.out.below hb)).mono fun e w' ⟨v', h1, h2, h3⟩ => ⟨v', h1, h2.1, h3⟩
        have CM : Hid (∀ W, Below w4.heap.size w4 W → Calls Tryz.prog 17 #[.pointer (some ⟨D, 0, none⟩)] W fun e w' => ∃ v', e = .returned v' ∧ MksAt w' v' (run l (k + 1)).marks ∧ Below W.heap.size W w') := fun W hb => (marks_get D _ _ W (HD4.out.below hb)).mono fun e w' ⟨v', h1, h2, h3⟩ => ⟨v', h1, h2.1, h3⟩
        have CK : Hid (∀ W, Below w4.heap.size w4 W → Calls Tryz.prog 19 #[.pointer (some ⟨D, 0, none⟩)] W fun e w' => ∃ v', e = .returned v' ∧ KnAt w' v' (run l (k + 1)).known ∧ Below W.heap.size W w') := fun W hb => (known_get D _ _ W (HD4.out.below hb)).mono fun e w' ⟨v', h1, h2, _, h3⟩ => ⟨v', h1, h2, h3⟩
        have CO : Hid (∀ W, Below w4.heap.size w4 W → Calls Tryz.prog 21 #[.pointer (some ⟨D, 0, none⟩)] W fun e w' => ∃ v', e = .returned v' ∧ OpsAt w' v' (run l (k + 1)).ops ∧ Below W.heap.size W w') := fun W hb => (ops_get D _ _ W (HD4.out.below hb)).mono fun e w' ⟨v', h1, h2, h3⟩ => ⟨v', h1, h2.at, h3⟩
        have SB : Hid (∀ W v, Below w4.heap.size w4 W → BookAt W v (run l (k + 1)).book → Calls Tryz.prog 14 #[v, .slice pb nb cb] W fun e w' => e = .returned (.bool true) ∧ Below W.heap.size W w') := fun W v hb h1 => (Lk.leafs_any v _ _ _ W h1 (HP.out.book W hb) (by have := few_book HI.out; omega)).mono fun e w' ⟨h1, h2⟩ => ⟨by rw [h1]; simp, h2⟩
        have SM : Hid (∀ W v, Below w4.heap.size w4 W → MksAt W v (run l (k + 1)).marks → Calls Tryz.prog 16 #[v, .slice pm nm cm] W fun e w' => e = .returned (.bool true) ∧ Below W.heap.size W w') := fun W v hb h1 => (Np.marks_any v _ _ _ W h1 (HP.out.marks W hb) (by have := few_marks HI.out; omega)).mono fun e w' ⟨h1, h2⟩ => ⟨by rw [h1]; simp, h2⟩
        have SK : Hid (∀ W v, Below w4.heap.size w4 W → KnAt W v (run l (k + 1)).known → Calls Tryz.prog 18 #[v, .slice (some ⟨gk, 0, none⟩) 8 8] W fun e w' => e = .returned (.bool true) ∧ Below W.heap.size W w') := fun W v hb h1 => by
          obtain ⟨p9, c9, rfl, h9⟩ := h1
          exact (Dg.ints_any p9 (some ⟨gk, 0, none⟩) _ 8 c9 8 _ _ W rfl HI.out.klen (by rw [HI.out.klen]; decide) h9 (HP.out.known W hb)).mono fun e w' ⟨h1, h2⟩ => ⟨by rw [h1]; simp, h2⟩
        have SO : Hid (∀ W v, Below w4.heap.size w4 W → OpsAt W v (run l (k + 1)).ops → Calls Tryz.prog 20 #[v, .slice po no co] W fun e w' => e = .returned (.bool true) ∧ Below W.heap.size W w') := fun W v hb h1 => (Ol.same_ops v _ _ _ W h1 (HP.out.ops W hb) (by have := HI.out.few; omega) (fun x hx => Nat.le_trans (lawOf_zero.1 (opE_zero.1 (HI.out.right x hx)).2.2.2).2.2.2.1 (by decide))).mono fun e w' ⟨h1, h2⟩ => ⟨by rw [h1]; simp, h2⟩
        obtain ⟨tx, htx⟩ : ∃ tx, tx = Lf.textR (run l (k + 1)).book := ⟨_, rfl⟩
        have CT : Hid (∀ W, Below w4.heap.size w4 W → Calls Tryz.prog 22 #[.pointer (some ⟨D, 0, none⟩)] W fun e w' => e = .returned (.string tx) ∧ Below W.heap.size W w') := fun W hb => by rw [htx]; exact text_get D _ _ W (HD4.out.below hb)
        have RT : Hid (∀ W, Below w4.heap.size w4 W → Calls Tryz.prog 23 #[.slice pb nb cb] W fun e w' => e = .returned (.string tx) ∧ Below W.heap.size W w') := fun W hb => by
          obtain ⟨p9, c9, e9, h9, _⟩ := HP.out.book W hb
          injection e9 with e1 e2 e3
          subst e1 e2 e3
          have ht : tx = ⟨(Bm.text (run l (k + 1)).book).toArray⟩ := by rw [htx]; unfold Lf.textR; rw [if_pos HI.out.book]
          rw [ht]
          exact Mb.text_ref pb _ cb _ W rfl h9 (Lf.book_ok HI.out.book).2.2 (by have := few_book HI.out; omega)
        have x0 := HP.out.c0 w5 HB5.out
        clear hb5 CE hps htx HNW HQ
        go_wp2_with fail
        -- (behind the op)
        cases nw
        all_goals
          go_region_held3 (fun W => W.cell? ⟨E, 0, none⟩ = some (.slice pb nb cb)) (first | (go_keep; done) | (refine keep_cell hb8 ?_; (first | assumption | (go_split_ands; assumption))) | (refine keep_cell hb7 ?_; (first | assumption | (go_split_ands; assumption)))) (first
            | (go_at_call 15; refine (CB.out _ HB5.out.drew).mono ?_; rintro e w6 ⟨v6, rfl, hk7, hb7⟩; obtain ⟨p6, n6, c6, rfl⟩ : ∃ p n c, v6 = .slice p n c := (by obtain ⟨p, c, e, _⟩ := hk7; exact ⟨_, _, _, e⟩); have HB6 : Hid (Below w4.heap.size w4 w6) := bel HB5.out.drew hb7; have HK6 : Hid (BookAt w6 (.slice p6 n6 c6) (run l (k + 1)).book) := hk7; clear hk7)
            | (go_at_call 14; refine (SB.out _ _ HB6.out HK6.out).mono ?_; rintro e w7 ⟨rfl, hb8⟩; have HB7 : Hid (Below w4.heap.size w4 w7) := bel HB6.out hb8))
          clear hb7 hb8 HK6 HB6 HB5 x0
          have x1 := HP.out.c1 w7 HB7.out
          go_wp2_with fail
          go_region_held3 (fun W => W.cell? ⟨E, 1, none⟩ = some (.slice pm nm cm)) (first | (go_keep; done) | (refine keep_cell hb8 ?_; (first | assumption | (go_split_ands; assumption))) | (refine keep_cell hb7 ?_; (first | assumption | (go_split_ands; assumption)))) (first
            | (go_at_call 17; refine (CM.out _ HB7.out.drew).mono ?_; rintro e w8 ⟨v8, rfl, hk7, hb7⟩; obtain ⟨p8, n8, c8, rfl⟩ : ∃ p n c, v8 = .slice p n c := (by obtain ⟨p, c, e, _⟩ := hk7; exact ⟨_, _, _, e⟩); have HB8 : Hid (Below w4.heap.size w4 w8) := bel HB7.out.drew hb7; have HK8 : Hid (MksAt w8 (.slice p8 n8 c8) (run l (k + 1)).marks) := hk7; clear hk7)
            | (go_at_call 16; refine (SM.out _ _ HB8.out HK8.out).mono ?_; rintro e w9 ⟨rfl, hb8⟩; have HB9 : Hid (Below w4.heap.size w4 w9) := bel HB8.out hb8))
          clear hb7 hb8 HK8 HB8 HB7 x1
          have x2 := HP.out.c2 w9 HB9.out
          go_wp2_with fail
          go_region_held3 (fun W => W.cell? ⟨E, 2, none⟩ = some (.slice (some ⟨gk, 0, none⟩) 8 8)) (first | (go_keep; done) | (refine keep_cell hb8 ?_; (first | assumption | (go_split_ands; assumption))) | (refine keep_cell hb7 ?_; (first | assumption | (go_split_ands; assumption)))) (first
            | (go_at_call 19; refine (CK.out _ HB9.out.drew).mono ?_; rintro e w10 ⟨v10, rfl, hk7, hb7⟩; obtain ⟨p10, n10, c10, rfl⟩ : ∃ p n c, v10 = .slice p n c := (by obtain ⟨p, c, e, _⟩ := hk7; exact ⟨_, _, _, e⟩); have HB10 : Hid (Below w4.heap.size w4 w10) := bel HB9.out.drew hb7; have HK10 : Hid (KnAt w10 (.slice p10 n10 c10) (run l (k + 1)).known) := hk7; clear hk7)
            | (go_at_call 18; refine (SK.out _ _ HB10.out HK10.out).mono ?_; rintro e w11 ⟨rfl, hb8⟩; have HB11 : Hid (Below w4.heap.size w4 w11) := bel HB10.out hb8))
          clear hb7 hb8 HK10 HB10 HB9 x2
          have x3 := HP.out.c3 w11 HB11.out
          go_wp2_with fail
          go_region_held3 (fun W => W.cell? ⟨E, 3, none⟩ = some (.slice po no co)) (first | (go_keep; done) | (refine keep_cell hb8 ?_; (first | assumption | (go_split_ands; assumption))) | (refine keep_cell hb7 ?_; (first | assumption | (go_split_ands; assumption)))) (first
            | (go_at_call 21; refine (CO.out _ HB11.out.drew).mono ?_; rintro e w12 ⟨v12, rfl, hk7, hb7⟩; obtain ⟨p12, n12, c12, rfl⟩ : ∃ p n c, v12 = .slice p n c := (by obtain ⟨p, c, e, _⟩ := hk7; exact ⟨_, _, _, e⟩); have HB12 : Hid (Below w4.heap.size w4 w12) := bel HB11.out.drew hb7; have HK12 : Hid (OpsAt w12 (.slice p12 n12 c12) (run l (k + 1)).ops) := hk7; clear hk7)
            | (go_at_call 20; refine (SO.out _ _ HB12.out HK12.out).mono ?_; rintro e w13 ⟨rfl, hb8⟩; have HB13 : Hid (Below w4.heap.size w4 w13) := bel HB12.out hb8))
          clear hb7 hb8 HK12 HB12 HB11 x3
          have x0 := HP.out.c0 w13 HB13.out
          clear CB CM CK CO SB SM SK SO
          go_wp2_with fail
          go_region_held3 (fun W => W.cell? ⟨E, 0, none⟩ = some (.slice pb nb cb)) (first | (go_keep; done) | (refine keep_cell hb8 ?_; (first | assumption | (go_split_ands; assumption))) | (refine keep_cell hb7 ?_; (first | assumption | (go_split_ands; assumption)))) (first
            | (go_at_call 22; refine (CT.out _ HB13.out.drew).mono ?_; rintro e w14 ⟨rfl, hb7⟩; have HB14 : Hid (Below w4.heap.size w4 w14) := bel HB13.out.drew hb7)
            | (go_at_call 23; refine (RT.out _ HB14.out).mono ?_; rintro e w15 ⟨rfl, hb8⟩; have HB15 : Hid (Below w4.heap.size w4 w15) := bel HB14.out hb8))
          clear hb7 hb8 x0
          go_wp2_with fail
          go_roundw
          case rel => exact ⟨k + 1, F4, F3, by omega, by omega, by go_num, HD4.out.below HB15.out, HE4.out.below HB15.out, HF4, HX4, bel HB4.out HB15.out⟩
          case measure => simp [intOf]; omega
        -- (that is all)
      · have hltz2 : ¬ (k : Int) < 60 := by omega
        go_wp2_with fail
        go_ret
        exact ⟨rfl, HBk.out⟩
    · have hltz : ¬ (k : Int) < n := by omega
      go_wp2_with fail
      go_ret
      exact ⟨rfl, HBk.out⟩

end Xg
end Go.Proofs.YtnniggjeadlbgaaGreatDoor
