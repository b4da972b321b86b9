/- The walk of CausalPlays. -/
import Derived.Test.YtnniggjeadlbgaaGreatDoorJh
import Derived.Test.YtnniggjeadlbgaaGreatDoorJn
import Derived.Test.YtnniggjeadlbgaaGreatDoorJo
import Derived.Test.YtnniggjeadlbgaaGreatDoorXg
import Derived.Test.YtnniggjeadlbgaaGreatDoorJ14
namespace Go.Proofs.YtnniggjeadlbgaaGreatDoor
namespace Jp
set_option linter.unusedVariables false
set_option linter.unusedSimpArgs false
open Go.ChangeShapes Go.WideShapes Go.ChangeAt Go.RowKit Cm Ka Kb Na Om Oa Oz Oc Og Oi Hm Ia Ic Idc Ie If Ig Ii Ij Ik Il Im Iq Xa Ja Jm Je Jh
open La (bel bel_drew errV_zero errV_ne own_ge own_grow own_below Lies)
open Lj (BookAt BookNew)
open Kt (ET)
open Xg (Parts in_old)

/- ops that are put one behind the other -/
def brun (l : List Ox) (k : Nat) : Dq × List Ox := (l.take k).foldl (fun st o => (putR st.1 st.2 o).2) (d0, [])
theorem brun_next {l : List Ox} {k : Nat} (hk : k < l.length) : brun l (k + 1) = (putR (brun l k).1 (brun l k).2 (l.getD k oz)).2 := by
  unfold brun; rw [Im.take_next hk, List.foldl_append]; rfl
theorem RBAt.doc {B : Nat} {w : World} {Q E : Nat} {S : Dq} {L : List Ox} {H : Nat → Prop} (h : RBAt B w Q E S L H) : ∃ F, RefAt B w E S F := by
  obtain ⟨vL, M, F, m, _, _⟩ := h
  exact ⟨F, m.doc⟩
theorem RBAt.ptr {B : Nat} {w : World} {Q E : Nat} {S : Dq} {L : List Ox} {H : Nat → Prop} (h : RBAt B w Q E S L H) : w.cell? ⟨Q, 0, none⟩ = some (.pointer (some ⟨E, 0, none⟩)) := by
  obtain ⟨vL, M, F, m, _, _⟩ := h
  exact blk_cell m.blk (i := 0) rfl
theorem rb_new {w w2 : World} {E : Nat} {F : Nat → Prop} {B : Nat} (h : RefAt B w2 E d0 F) (hB : B ≤ w2.heap.size) : RBAt B (w2.alloc (.cells #[.pointer (some ⟨E, 0, none⟩), .slice none 0 0] 82)) w2.heap.size E d0 [] (fun g => F g ∨ g = w2.heap.size) := by
  refine ⟨.slice none 0 0, [], F, ⟨heap_alloc_new w2 _, h.below (below_a w2 _), World.ownsRow_nil _ _ _ _, fun y hy => (by cases hy), fun y hy => (by cases hy), Wt.nil, ⟨fun e => by have := (h.lt _ e).2; omega, hB⟩, fun g e => (by cases e)⟩, rfl, fun g => ?_⟩
  constructor
  · rintro (e | e)
    · exact Or.inl e
    · exact Or.inr (Or.inl e)
  · rintro (e | e | e)
    · exact Or.inl e
    · exact Or.inr e
    · cases e

set_option maxRecDepth 100000 in
set_option maxHeartbeats 8000000 in
theorem walk (vl : Value) (l : List Ox) (w : World) (hl : OpsAt w vl l) (hsz : ∀ x ∈ l, x.2.2.1.size ≤ maxLen) (hg : ET w) :
    Calls Tryz.prog 8 #[vl] w fun e w' => e = .returned (.bool true) ∧ Below w.heap.size w w' := by
  obtain ⟨ql, cl, rfl, hlin, _⟩ := hl
  obtain ⟨n, hn⟩ : ∃ n, n = l.length := ⟨_, rfl⟩
  rw [← hn]
  have HN : Hid (l.length = n) := hn.symm
  have HLI : Hid (OpsIn w ql l) := hlin
  have HSZ : Hid (∀ x ∈ l, x.2.2.1.size ≤ maxLen) := hsz
  have HG : Hid (ET w) := hg
  clear hlin hsz hn hg
  go_enter Tryz.func8, Tryz.ntmps8
  go_wp2_with fail
  refine (new_any w).mono ?_
  rintro e w1 ⟨D, F1, rfl, hd1, hf1, hb1⟩
  have HB1 : Hid (Below w.heap.size w w1) := hb1
  have HF1 : Hid (∀ g, F1 g → w.heap.size ≤ g) := hf1
  have CB := buf_new D d0 F1 w1 hd1
  clear hd1 hf1 hb1
  go_wp2_with fail
  refine CB.mono ?_
  rintro e w2 ⟨BB, E2, rfl, hq2, hf2, hb2⟩
  have HB2 : Hid (Below w.heap.size w w2) := bel HB1.out hb2
  have HQ2 : Hid (BufAt w2 BB D d0 [] E2) := hq2
  have HF2 : Hid (∀ g, E2 g → w.heap.size ≤ g) := fun g hg => by
    rcases hf2 g hg with e | e
    · exact HF1.out g e
    · exact Nat.le_trans HB1.out.size e
  clear hq2 hf2 hb2 CB HF1 HB1
  go_wp2_with fail
  refine (Xb.new_ref w.heap.size w2 HB2.out.size).mono ?_
  rintro e w3 ⟨E, F3, rfl, hd3, hf3, hb3⟩
  have HB3 : Hid (Below w.heap.size w w3) := bel HB2.out hb3
  have HRB : Hid (RBAt w.heap.size (w3.alloc (.cells #[.pointer (some ⟨E, 0, none⟩), .slice none 0 0] 82)) w3.heap.size E d0 [] (fun g => F3 g ∨ g = w3.heap.size)) := rb_new (w := w) hd3 HB3.out.size
  have HQ3 : Hid (BufAt (w3.alloc (.cells #[.pointer (some ⟨E, 0, none⟩), .slice none 0 0] 82)) BB D d0 [] E2) := HQ2.out.below (bel hb3 (below_a w3 _))
  have HB4 : Hid (Below w.heap.size w (w3.alloc (.cells #[.pointer (some ⟨E, 0, none⟩), .slice none 0 0] 82))) := bel HB3.out (below_a w3 _)
  have HX3 : Hid (∀ g, (F3 g ∨ g = w3.heap.size) → ¬ E2 g) := fun g h2 h1 => by
    have q1 := HQ2.out.lt g h1
    rcases h2 with e | e
    · have := hf3 g e; omega
    · have := hb3.size; omega
  clear hd3 hf3 hb3 HQ2 HB2
  go_wp2_with fail
  generalize hW : w3.alloc (.cells #[.pointer (some ⟨E, 0, none⟩), .slice none 0 0] 82) = w4 at HRB HQ3 HB4 ⊢
  generalize hQ : w3.heap.size = Q at HRB HX3 ⊢
  clear hW hQ HB3
  go_loopw [5] (fun vi wr => ∃ (k : Nat) (Fb Hr : Nat → Prop), k ≤ n ∧ k ≤ 60 ∧ vi = .int .i64 k ∧ Hid (BufAt wr BB D (brun l k).1 (brun l k).2 Fb) ∧ Hid (RBAt w.heap.size wr Q E (brun l k).1 (brun l k).2 Hr) ∧ Hid (∀ g, Fb g → w.heap.size ≤ g) ∧ Hid (∀ g, Hr g → ¬ Fb g) ∧ Hid (Below w.heap.size w wr)) (fun vi _ => 60 - (intOf vi).toNat)
  case atStart => exact ⟨0, E2, _, by omega, by omega, rfl, HQ3, HRB, HF2, HX3, HB4⟩
  case round =>
    clear HQ3 HRB HF2 HX3 HB4
    obtain ⟨k, Fb, Hr, hk, hk60, rfl, HDk, HEk, HFk, HXk, HBk⟩ := hrel
    by_cases hlt1 : k < n
    · have hltz : (k : Int) < n := by omega
      by_cases hlt2 : k < 60
      · have hltz2 : (k : Int) < 60 := by omega
        have hkl : k < l.length := by rw [HN.out]; exact hlt1
        obtain ⟨bo, oo, rfl, hc⟩ := HLI.out.some (by intro e; rw [e] at hkl; simp at hkl)
        have ha0 := hc k hkl
        have hxm := HSZ.out _ (getO_mem hkl)
        have HRN : Hid (brun l (k + 1) = (putR (brun l k).1 (brun l k).2 (l.getD k oz)).2) := brun_next hkl
        obtain ⟨x, hx⟩ : ∃ x, x = l.getD k oz := ⟨_, rfl⟩
        rw [← hx] at ha0 hxm HRN
        obtain ⟨⟨xa, xb⟩, xt, xp, xc, xs⟩ := x
        obtain ⟨vx, ⟨g0, g1, g2, g3, g4, g5⟩, hdx0⟩ := ha0
        simp only at g0 g1 g2 g3 g4 g5 hdx0 hxm
        obtain ⟨pv, nv, cv, rfl⟩ : ∃ pv nv cv, vx = .slice pv nv cv := by obtain ⟨_, _, e9, _⟩ := hdx0; exact ⟨_, _, _, e9⟩
        have HSX : Hid (∀ W, Below w.heap.size w W → W.cell? ⟨bo, oo + k * 6, none⟩ = some (.int .i64 xa) ∧ W.cell? ⟨bo, oo + k * 6 + 1, none⟩ = some (.int .i64 xb) ∧ W.cell? ⟨bo, oo + k * 6 + 2, none⟩ = some (.int .i64 xt) ∧ W.cell? ⟨bo, oo + k * 6 + 3, none⟩ = some (.string xp) ∧ W.cell? ⟨bo, oo + k * 6 + 4, none⟩ = some (.int .i64 xc) ∧ W.cell? ⟨bo, oo + k * 6 + 5, none⟩ = some (.slice pv nv cv)) := fun W hb => ⟨Nc.keep_cell hb g0, Nc.keep_cell hb g1, Nc.keep_cell hb g2, Nc.keep_cell hb g3, Nc.keep_cell hb g4, Nc.keep_cell hb g5⟩
        have HDX : Hid (DtsAt w (.slice pv nv cv) xs ∧ xp.size ≤ maxLen) := ⟨hdx0, hxm⟩
        obtain ⟨r, hr⟩ : ∃ r, r = putR (brun l k).1 (brun l k).2 ((xa, xb), xt, xp, xc, xs) := ⟨_, rfl⟩
        have CR := Jo.rput_any w.heap.size Q E (brun l k).1 (brun l k).2 Hr xa xb xt xp xc (.slice pv nv cv) xs wr HEk.out (hdx0.below HBk.out) (in_old hdx0) hxm
        rw [← hr] at CR HRN
        have HRR : Hid (r = putR (brun l k).1 (brun l k).2 ((xa, xb), xt, xp, xc, xs)) := hr
        obtain ⟨a0, a1, a2, a3, a4, a5⟩ := HSX.out wr HBk.out
        obtain ⟨r1, hr1⟩ : ∃ r1, r1 = r.1.1 := ⟨_, rfl⟩
        obtain ⟨q, hq⟩ : ∃ q, q = r.1.2 := ⟨_, rfl⟩
        have HRQ : Hid (r1 = r.1.1 ∧ q = r.1.2) := ⟨hr1, hq⟩
        clear hc hx hkl hxm hdx0 g0 g1 g2 g3 g4 g5 hr hr1 hq
        go_wp2_with fail
        refine CR.mono ?_
        rintro e w3 ⟨he, H3, hd3, hc3, hf3⟩
        rw [← HRQ.out.1, ← HRQ.out.2] at he
        subst he
        have HFR : Hid (∀ g, Hr g → w.heap.size ≤ g) := fun g hg => (HEk.out.lt g hg).1
        have HE3 : Hid (RBAt w.heap.size w3 Q E (brun l (k + 1)).1 (brun l (k + 1)).2 H3) := by unfold Hid; rw [HRN.out]; exact hd3
        have HB3 : Hid (Below w.heap.size w w3) := hc3.below HFR.out HBk.out HBk.out.size
        have HD3 : Hid (BufAt w3 BB D (brun l k).1 (brun l k).2 Fb) := HDk.out.chg hc3 (fun g h1 h2 => HXk.out g h2 h1)
        have HX3 : Hid (∀ g, H3 g → ¬ Fb g) := fun g h1 h2 => by
          rcases hf3 g h1 with e9 | e9
          · exact HXk.out g e9 h2
          · have := HDk.out.lt g h2; omega
        have CD := put_any BB D (brun l k).1 (brun l k).2 Fb xa xb xt xp xc (.slice pv nv cv) xs w3 HD3.out (HDX.out.1.below HB3.out) HDX.out.2
        rw [← HRR.out] at CD
        clear hd3 hc3 hf3 CR a0 a1 a2 a3 a4 a5
        obtain ⟨a0, a1, a2, a3, a4, a5⟩ := HSX.out w3 HB3.out
        go_wp2_with fail
        refine CD.mono ?_
        rintro e w4 ⟨he, F4, hd4, hc4, hf4⟩
        rw [← HRQ.out.1, ← HRQ.out.2] at he
        subst he
        have HD4 : Hid (BufAt w4 BB D (brun l (k + 1)).1 (brun l (k + 1)).2 F4) := by unfold Hid; rw [HRN.out]; exact hd4
        have HB4 : Hid (Below w.heap.size w w4) := hc4.below HFk.out HB3.out HB3.out.size
        have HF4 : Hid (∀ g, F4 g → w.heap.size ≤ g) := fun g hg => by
          rcases hf4 g hg with e9 | e9
          · exact HFk.out g e9
          · exact Nat.le_trans HB3.out.size e9
        have HE4 : Hid (RBAt w.heap.size w4 Q E (brun l (k + 1)).1 (brun l (k + 1)).2 H3) := HE3.out.chg hc4 HFk.out HX3.out
        have HX4 : Hid (∀ g, H3 g → ¬ F4 g) := fun g h1 h2 => by
          rcases hf4 g h2 with e9 | e9
          · exact HX3.out g h1 e9
          · have := (HE3.out.lt g h1).2; omega
        have CE := Kl.same_any q q w4 (Kl.ET.below HG.out HB4.out)
        rw [show (q == q) = true by simp] at CE
        obtain ⟨S, hS⟩ : ∃ S, S = (brun l (k + 1)).1 := ⟨_, rfl⟩
        obtain ⟨LW, hLW⟩ : ∃ LW, LW = (brun l (k + 1)).2 := ⟨_, rfl⟩
        have HSL : Hid (S = (brun l (k + 1)).1 ∧ LW = (brun l (k + 1)).2) := ⟨hS, hLW⟩
        rw [← hS, ← hLW] at HD4 HE4
        clear hd4 hc4 hf4 CD a0 a1 a2 a3 a4 a5 hS hLW HE3 HD3 HX3
        go_wp2_with fail
        refine CE.mono ?_
        rintro e w5 ⟨rfl, hb5⟩
        have HB5 : Hid (Below w4.heap.size w4 w5) := hb5
        have CW := buf_waits BB D S LW F4 w5 (HD4.out.below hb5)
        have HWT : Hid (Wt LW) := HD4.out.wt
        clear hb5 CE
        go_wp2_with fail
        refine CW.mono ?_
        rintro e w6 ⟨v6, rfl, hr6, hb6⟩
        have HB6 : Hid (Below w4.heap.size w4 w6) := bel HB5.out hb6
        have HW6 : Hid (DtsAt w6 v6 (waits LW)) := own_dts hr6
        have CW2 := Jn.rwaits_any w.heap.size Q E S LW H3 w6 (HE4.out.below HB6.out)
        clear hr6 hb6 CW HB5
        go_wp2_with fail
        refine CW2.mono ?_
        rintro e w7 ⟨v7, rfl, hk7, hb7⟩
        have HB7 : Hid (Below w4.heap.size w4 w7) := bel HB6.out hb7
        have CDD := Ol.dots_any v6 v7 (waits LW) (waits LW) w7 (HW6.out.below hb7) hk7 (by unfold waits; rw [List.length_mergeSort, List.length_map]; have := HWT.out.few; omega)
        rw [decide_eq_true rfl] at CDD
        clear hk7 hb7 CW2 HB6 HW6
        go_wp2_with fail
        refine CDD.mono ?_
        rintro e w8 ⟨rfl, hb8⟩
        have HB8 : Hid (Below w4.heap.size w4 w8) := bel HB7.out hb8
        clear hb8 CDD HB7
        obtain ⟨FR, hFR⟩ := RBAt.doc HE4.out
        obtain ⟨pb, nb, cb, pm, nm, cm, gk, po, no, co, hps⟩ := Xg.RefAt.parts hFR
        have HP : Hid (Parts w4 E S pb nb cb pm nm cm gk po no co) := hps
        have HPT : Hid (∀ W, Below w4.heap.size w4 W → W.cell? ⟨Q, 0, none⟩ = some (.pointer (some ⟨E, 0, none⟩))) := fun W hb => RBAt.ptr (HE4.out.below hb)
        have HI : Hid (Inv S) := HD4.out.inv
        have CDo : Hid (∀ W, Below w4.heap.size w4 W → Calls Tryz.prog 40 #[.pointer (some ⟨BB, 0, none⟩)] W fun e w' => e = .returned (.pointer (some ⟨D, 0, none⟩)) ∧ Below W.heap.size W w') := fun W hb => (buf_doc BB D S LW F4 W (HD4.out.below hb)).mono fun e w' ⟨h1, h2⟩ => ⟨h1, by rw [h2]; exact Below.refl _ _⟩
        have CB : Hid (∀ W, Below w4.heap.size w4 W → Calls Tryz.prog 15 #[.pointer (some ⟨D, 0, none⟩)] W fun e w' => ∃ v', e = .returned v' ∧ BookAt w' v' S.book ∧ Below W.heap.size W w') := fun W hb => by
          obtain ⟨FD, h1, _⟩ := (HD4.out.below hb).doc
          exact (book_get D _ _ W h1).mono fun e w' ⟨v', h1, h2, h3⟩ => ⟨v', h1, h2.1, h3⟩
        have CK : Hid (∀ W, Below w4.heap.size w4 W → Calls Tryz.prog 19 #[.pointer (some ⟨D, 0, none⟩)] W fun e w' => ∃ v', e = .returned v' ∧ KnAt w' v' S.known ∧ Below W.heap.size W w') := fun W hb => by
          obtain ⟨FD, h1, _⟩ := (HD4.out.below hb).doc
          exact (known_get D _ _ W h1).mono fun e w' ⟨v', h1, h2, _, h3⟩ => ⟨v', h1, h2, h3⟩
        have SB : Hid (∀ W v, Below w4.heap.size w4 W → BookAt W v S.book → Calls Tryz.prog 14 #[v, .slice pb nb cb] W fun e w' => e = .returned (.bool true) ∧ Below W.heap.size W w') := fun W v hb h1 => (Lk.leafs_any v _ _ _ W h1 (HP.out.book W hb) (by have := few_book HI.out; omega)).mono fun e w' ⟨h1, h2⟩ => ⟨by rw [h1]; simp, h2⟩
        have SK : Hid (∀ W v, Below w4.heap.size w4 W → KnAt W v S.known → Calls Tryz.prog 18 #[v, .slice (some ⟨gk, 0, none⟩) 8 8] W fun e w' => e = .returned (.bool true) ∧ Below W.heap.size W w') := fun W v hb h1 => by
          obtain ⟨p9, c9, rfl, h9⟩ := h1
          exact (Dg.ints_any p9 (some ⟨gk, 0, none⟩) _ 8 c9 8 _ _ W rfl HI.out.klen (by rw [HI.out.klen]; decide) h9 (HP.out.known W hb)).mono fun e w' ⟨h1, h2⟩ => ⟨by rw [h1]; simp, h2⟩
        have x0 := HPT.out w8 HB8.out
        have x2 := HP.out.c2 w8 HB8.out
        clear hps hFR
        go_wp2_with fail
        go_region_held3 (fun W => W.cell? ⟨Q, 0, none⟩ = some (.pointer (some ⟨E, 0, none⟩)) ∧ W.cell? ⟨E, 2, none⟩ = some (.slice (some ⟨gk, 0, none⟩) 8 8)) (first | (go_keep; done) | (refine ⟨Nc.keep_cell hb13 ?_, Nc.keep_cell hb13 ?_⟩ <;> (go_split_ands; assumption)) | (refine ⟨Nc.keep_cell hb12 ?_, Nc.keep_cell hb12 ?_⟩ <;> (go_split_ands; assumption)) | (refine ⟨Nc.keep_cell hb11 ?_, Nc.keep_cell hb11 ?_⟩ <;> (go_split_ands; assumption))) (first
          | (go_at_call 40; refine (CDo.out _ HB8.out.drew).mono ?_; rintro e w11 ⟨rfl, hb11⟩; have HB11 : Hid (Below w4.heap.size w4 w11) := bel HB8.out.drew hb11)
          | (go_at_call 19; refine (CK.out _ HB11.out).mono ?_; rintro e w12 ⟨v12, rfl, hk12, hb12⟩; obtain ⟨p12, n12, c12, rfl⟩ : ∃ p n c, v12 = .slice p n c := (by obtain ⟨p, c, e, _⟩ := hk12; exact ⟨_, _, _, e⟩); have HB12 : Hid (Below w4.heap.size w4 w12) := bel HB11.out hb12; have HK12 : Hid (KnAt w12 (.slice p12 n12 c12) S.known) := hk12; clear hk12)
          | (go_at_call 18; refine (SK.out _ _ HB12.out HK12.out).mono ?_; rintro e w13 ⟨rfl, hb13⟩; have HB13 : Hid (Below w4.heap.size w4 w13) := bel HB12.out hb13))
        clear hb11 hb12 hb13 HK12 HB12 HB11 HB8 x0 x2
        have x0 := HPT.out w13 HB13.out
        have x2 := HP.out.c0 w13 HB13.out
        go_wp2_with fail
        go_region_held3 (fun W => W.cell? ⟨Q, 0, none⟩ = some (.pointer (some ⟨E, 0, none⟩)) ∧ W.cell? ⟨E, 0, none⟩ = some (.slice pb nb cb)) (first | (go_keep; done) | (refine ⟨Nc.keep_cell hb16 ?_, Nc.keep_cell hb16 ?_⟩ <;> (go_split_ands; assumption)) | (refine ⟨Nc.keep_cell hb15 ?_, Nc.keep_cell hb15 ?_⟩ <;> (go_split_ands; assumption)) | (refine ⟨Nc.keep_cell hb14 ?_, Nc.keep_cell hb14 ?_⟩ <;> (go_split_ands; assumption))) (first
          | (go_at_call 40; refine (CDo.out _ HB13.out.drew).mono ?_; rintro e w14 ⟨rfl, hb14⟩; have HB14 : Hid (Below w4.heap.size w4 w14) := bel HB13.out.drew hb14)
          | (go_at_call 15; refine (CB.out _ HB14.out).mono ?_; rintro e w15 ⟨v15, rfl, hk15, hb15⟩; obtain ⟨p15, n15, c15, rfl⟩ : ∃ p n c, v15 = .slice p n c := (by obtain ⟨p, c, e, _⟩ := hk15; exact ⟨_, _, _, e⟩); have HB15 : Hid (Below w4.heap.size w4 w15) := bel HB14.out hb15; have HK15 : Hid (BookAt w15 (.slice p15 n15 c15) S.book) := hk15; clear hk15)
          | (go_at_call 14; refine (SB.out _ _ HB15.out HK15.out).mono ?_; rintro e w16 ⟨rfl, hb16⟩; have HB16 : Hid (Below w4.heap.size w4 w16) := bel HB15.out hb16))
        clear hb14 hb15 hb16 HK15 HB15 HB14 HB13 x0 x2
        have hrr : (r1 == r1) = true := by simp
        go_wp2_with fail
        go_roundw
        case rel => exact ⟨k + 1, F4, H3, by omega, by omega, by go_num, by (unfold Hid; rw [← HSL.out.1, ← HSL.out.2]; exact HD4.out.below HB16.out), by (unfold Hid; rw [← HSL.out.1, ← HSL.out.2]; exact HE4.out.below HB16.out), HF4, HX4, bel HB4.out HB16.out⟩
        case measure => simp [intOf]; omega
      · have hltz2 : ¬ (k : Int) < 60 := by omega
        go_wp2_with fail
        go_ret
        exact ⟨rfl, HBk.out⟩
    · have hltz : ¬ (k : Int) < n := by omega
      go_wp2_with fail
      go_ret
      exact ⟨rfl, HBk.out⟩

end Jp
end Go.Proofs.YtnniggjeadlbgaaGreatDoor
