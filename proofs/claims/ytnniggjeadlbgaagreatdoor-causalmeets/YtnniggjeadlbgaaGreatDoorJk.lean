/- The walk of CausalMeets. -/
import Derived.Test.YtnniggjeadlbgaaGreatDoorJh
import Derived.Test.YtnniggjeadlbgaaGreatDoorIq
import Derived.Test.YtnniggjeadlbgaaGreatDoorJ14
import Derived.Deep.DeepCutAuto
namespace Go.Proofs.YtnniggjeadlbgaaGreatDoor
namespace Jk
set_option linter.unusedVariables false
set_option linter.unusedSimpArgs false
open Go.ChangeShapes Go.WideShapes Go.ChangeAt Go.RowKit Cm Ka Kb Na Om Oa Oz Oc Og Oi Hm Ia Ic Idc Ie If Ig Ii Ij Ik Il Im Iq Ja Je Jh
open La (bel bel_drew errV_zero errV_ne own_ge own_grow own_below Lies)
open Lj (BookAt BookNew)
open Kt (ET)

/- a row stays while a doc is written, and a doc while a row is -/
theorem row_chg {B : Nat} {w w' : World} {v : Value} {L : List (Ox × Value)} {F : Nat → Prop} (h : RowL B w v L) (hc : Chg F w w') (hn : ∀ g, v.ownBlock = some g → ¬ F g) : RowL B w' v L :=
  own_stay h fun g hg => hc.block g (own_lt h g hg).1 (hn g hg)
theorem row_off {B : Nat} {w : World} {v : Value} {L : List (Ox × Value)} {F F' : Nat → Prop} (h : RowL B w v L) (hn : ∀ g, v.ownBlock = some g → ¬ F g) (hf : ∀ g, F' g → F g ∨ w.heap.size ≤ g) : ∀ g, v.ownBlock = some g → ¬ F' g := fun g hg e => by
  rcases hf g e with e | e
  · exact hn g hg e
  · have := (own_lt h g hg).1; omega
theorem doc_row {w w' : World} {D : Nat} {S : Dq} {F : Nat → Prop} {v : Value} (h : DocAt w D S F) (hg : w.grownBy w' v.ownBlock) (hn : ∀ g, v.ownBlock = some g → ¬ F g) : DocAt w' D S F :=
  h.chg (H := fun g => v.ownBlock = some g) (Chg.grown hg fun g e => e) (fun g hf e => hn g e hf)
theorem below_row {B : Nat} {w0 w w' : World} {v : Value} {L : List (Ox × Value)} (hr : RowL B w v L) (hb : Below B w0 w) (hB : B ≤ w.heap.size) (hg : w.grownBy w' v.ownBlock) : Below B w0 w' := own_grow hr hb hg hB

theorem doc_self {w : World} {D : Nat} {S : Dq} {F : Nat → Prop} (h : DocAt w D S F) : F D := by
  obtain ⟨m, G, rfl, _, hF⟩ := h
  exact (hF _).2 (Or.inr (Or.inl rfl))
theorem hdLow {w : World} {D B : Nat} {S : Dq} {F : Nat → Prop} (h : DocAt w D S F) (hF : ∀ g, F g → B ≤ g) : B ≤ D := hF _ (doc_self h)
theorem hdTop {w : World} {D B : Nat} {S : Dq} {F : Nat → Prop} (h : DocAt w D S F) (hF : ∀ g, F g → g < B) : D < B := hF _ (doc_self h)

theorem buf_row {w w' : World} {B D : Nat} {S : Dq} {L : List Ox} {F : Nat → Prop} {v : Value} (h : BufAt w B D S L F) (hg : w.grownBy w' v.ownBlock) (hn : ∀ g, v.ownBlock = some g → ¬ F g) : BufAt w' B D S L F :=
  h.chg (H := fun g => v.ownBlock = some g) (Chg.grown hg fun g e => e) (fun g hf e => hn g e hf)
def oW : Ox := ((1, 2), 1, nb, 104, [])
theorem putW : putR d0 [] oW = ((0, 0), d0, [oW]) := by kernel_rfl

set_option maxRecDepth 100000 in
set_option maxHeartbeats 8000000 in
theorem walk (vl : Value) (l : List Ox) (vo : Value) (od : List Int) (w : World) (hl : OpsAt w vl l) (hsz : ∀ x ∈ l, x.2.2.1.size ≤ maxLen) (ho : IntsAt w vo od) (hg : ET w) :
    Calls Tryz.prog 7 #[vl, vo] w fun e w' => e = .returned (.bool true) ∧ Below w.heap.size w w' := by
  obtain ⟨i0, hi, hz0, hz1, hz2⟩ := info_parts Ii.infoO
  obtain ⟨ql, cl, rfl, hlin, _⟩ := hl
  obtain ⟨qo, co, rfl, hoin⟩ := ho
  obtain ⟨n, hn⟩ : ∃ n, n = l.length := ⟨_, rfl⟩
  obtain ⟨no, hno⟩ : ∃ no, no = od.length := ⟨_, rfl⟩
  rw [← hn, ← hno]
  have HN : Hid (l.length = n) := hn.symm
  have HNO : Hid (od.length = no) := hno.symm
  have HLI : Hid (OpsIn w ql l) := hlin
  have HOI : Hid (Za.IntsIn w qo od) := hoin
  have HSZ : Hid (∀ x ∈ l, x.2.2.1.size ≤ maxLen) := hsz
  have HG : Hid (ET w) := hg
  clear hlin hoin hsz hn hno hg
  go_enter Tryz.func7, Tryz.ntmps7
  go_wp2_with fail
  refine (new_any w).mono ?_
  rintro e w1 ⟨D1, F1, rfl, hd1, hf1, hb1⟩
  have HB1 : Hid (Below w.heap.size w w1) := hb1
  have HF1 : Hid (∀ g, F1 g → w.heap.size ≤ g) := hf1
  have CB := buf_new D1 d0 F1 w1 hd1
  clear hd1 hf1 hb1
  go_wp2_with fail
  refine CB.mono ?_
  rintro e w2 ⟨B1, E1, rfl, hq2, hf2, hb2⟩
  have HB2 : Hid (Below w.heap.size w w2) := bel HB1.out hb2
  have HQ2 : Hid (BufAt w2 B1 D1 d0 [] E1) := hq2
  have HF2 : Hid (∀ g, E1 g → w.heap.size ≤ g) := fun g hg => by
    rcases hf2 g hg with e | e
    · exact HF1.out g e
    · exact Nat.le_trans HB1.out.size e
  have HBA : Hid (∀ O, Below w2.heap.size w2 (w2.alloc O)) := fun O => below_a w2 O
  have CP : Hid (∀ W, Below w2.heap.size w2 W → Calls Tryz.prog 38 #[.pointer (some ⟨B1, 0, none⟩), .agg #[.int .i64 1, .int .i64 2, .int .i64 1, .string ⟨#[110, 98]⟩, .int .i64 104, .slice none 0 0]] W (PutPost W B1 D1 E1 (putR d0 [] oW))) := fun W hb => put_any B1 D1 d0 [] E1 1 2 1 nb 104 (.slice none 0 0) [] W (HQ2.out.below hb) (DtsAt.nil _) (by unfold maxLen; decide)
  clear hq2 hf2 hb2 CB HF1
  go_wp2_with fail
  refine (CP.out _ (HBA.out _)).mono ?_
  rintro e w3 ⟨he, E3, hq3, hc3, hf3⟩
  rw [putW] at he hq3
  subst he
  have HB3 : Hid (Below w.heap.size w w3) := hc3.below HF2.out (bel HB2.out (HBA.out _)) (Nat.le_trans HB2.out.size (HBA.out _).size)
  have CW := buf_waits B1 D1 d0 [oW] E3 w3 hq3
  clear hq3 hc3 hf3 CP HBA HQ2 HF2 HB2
  rw [errV_zero]
  go_wp2_with fail
  refine CW.mono ?_
  rintro e w4 ⟨v4, rfl, hr4, hb4⟩
  obtain ⟨p4, n4, c4, rfl, HN4⟩ := own_shape hr4
  obtain rfl : n4 = 1 := HN4.out
  have HB5 : Hid (Below w.heap.size w w4) := bel HB3.out hb4
  clear hr4 hb4 CW HB3 HN4
  go_wp2_with fail
  refine (new_any w4).mono ?_
  rintro e w6 ⟨A, F6, rfl, hd6, hf6, hb6⟩
  have HD6 : Hid (DocAt w6 A (run l 0) F6) := hd6
  have HB6 : Hid (Below w.heap.size w w6) := bel HB5.out hb6
  have HF6 : Hid (∀ g, F6 g → w.heap.size ≤ g) := fun g hg => Nat.le_trans HB5.out.size (hf6 g hg)
  clear hd6 hf6 hb6 HB5
  go_wp2_with fail
  go_loopw [10, 11] (fun vd vi wr => ∃ (k : Nat) (Fk : Nat → Prop) (L : List (Ox × Value)), k ≤ n ∧ k ≤ 60 ∧ vi = .int .i64 k ∧ (∃ p N c, vd = .slice p N c) ∧ Hid (RowL w.heap.size wr vd L) ∧ Hid (L.map (·.1) = (run l k).ops ∧ L.length ≤ k) ∧ Hid (OkL w L) ∧ Hid (DocAt wr A (run l k) Fk) ∧ Hid (∀ g, Fk g → w.heap.size ≤ g) ∧ Hid (∀ g, vd.ownBlock = some g → ¬ Fk g) ∧ Hid (Below w.heap.size w wr)) (fun _ vi _ => 60 - (intOf vi).toNat)
  case atStart => exact ⟨0, F6, [], by omega, by omega, rfl, ⟨_, _, _, rfl⟩, World.ownsRow_nil _ _ _ _, ⟨rfl, Nat.le_refl _⟩, fun y hy => (by cases hy), HD6, HF6, fun g hg => (by cases hg), HB6⟩
  case round =>
    clear HD6 HF6 HB6
    obtain ⟨k, Fk, L, hk, hk60, rfl, ⟨pd, nd, cd, rfl⟩, HR, HLK, HGD, HDk, HFk, HNk, HBk⟩ := hrel
    go_upto_region 9 with fail
    go_cut [54] from 47 to 77 (fun s53 wx => ∃ t : Bool, s53 = .bool t ∧ Hid (t = decide (k < n ∧ k < 60)) ∧ wr = wx)
    case first =>
      by_cases h1 : k < n
      · have h1z : (k : Int) < n := by omega
        by_cases h2 : k < 60
        · have h2z : (k : Int) < 60 := by omega
          go_wp2_with fail
          go_meet
          case rel => exact ⟨true, rfl, (decide_eq_true ⟨h1, h2⟩).symm, rfl⟩
        · have h2z : ¬ (k : Int) < 60 := by omega
          have H2 : Hid (decide (k < n ∧ k < 60) = false) := decide_eq_false (fun h => h2 h.2)
          go_wp2_with fail
          go_meet
          case rel => exact ⟨false, by simp [h2], H2.out.symm, rfl⟩
      · have h1z : ¬ (k : Int) < n := by omega
        have H2 : Hid (decide (k < n ∧ k < 60) = false) := decide_eq_false (fun h => h1 h.1)
        go_wp2_with fail
        go_meet
        case rel => exact ⟨false, rfl, H2.out.symm, rfl⟩
    case rest =>
    obtain ⟨tt, rfl, HTT, rfl⟩ := hcut
    cases tt
    case true =>
      obtain ⟨hlt1, hlt2⟩ := of_decide_eq_true HTT.out.symm
      have hltz : (k : Int) < n := by omega
      have hltz2 : (k : Int) < 60 := by omega
      have hkl : k < l.length := by rw [HN.out]; exact hlt1
      obtain ⟨bo, oo, rfl, hc⟩ := HLI.out.some (by intro e; rw [e] at hkl; simp at hkl)
      have ha0 := hc k hkl
      have hxm := HSZ.out _ (getO_mem hkl)
      have HRN : Hid (run l (k + 1) = apS (run l k) (l.getD k oz)) := run_next hkl
      obtain ⟨x, hx⟩ : ∃ x, x = l.getD k oz := ⟨_, rfl⟩
      rw [← hx] at ha0 hxm HRN
      obtain ⟨⟨xa, xb⟩, xt, xp, xc, xs⟩ := x
      obtain ⟨vx, ⟨g0, g1, g2, g3, g4, g5⟩, hdx0⟩ := ha0
      simp only at g0 g1 g2 g3 g4 g5 hdx0 hxm
      obtain ⟨pv, nv, cv, rfl⟩ : ∃ pv nv cv, vx = .slice pv nv cv := by obtain ⟨_, _, e9, _⟩ := hdx0; exact ⟨_, _, _, e9⟩
      have HSX : Hid (∀ W, Below w.heap.size w W → W.cell? ⟨bo, oo + k * 6, none⟩ = some (.int .i64 xa) ∧ W.cell? ⟨bo, oo + k * 6 + 1, none⟩ = some (.int .i64 xb) ∧ W.cell? ⟨bo, oo + k * 6 + 2, none⟩ = some (.int .i64 xt) ∧ W.cell? ⟨bo, oo + k * 6 + 3, none⟩ = some (.string xp) ∧ W.cell? ⟨bo, oo + k * 6 + 4, none⟩ = some (.int .i64 xc) ∧ W.cell? ⟨bo, oo + k * 6 + 5, none⟩ = some (.slice pv nv cv)) := fun W hb => ⟨keep_cell hb g0, keep_cell hb g1, keep_cell hb g2, keep_cell hb g3, keep_cell hb g4, keep_cell hb g5⟩
      have HDX : Hid (DtsAt w (.slice pv nv cv) xs ∧ xp.size ≤ maxLen) := ⟨hdx0, hxm⟩
      have C := apply_any A (run l k) Fk xa xb xt xp xc (.slice pv nv cv) xs wr HDk.out (hdx0.below HBk.out) (off_old hdx0 HFk.out) hxm
      obtain ⟨a0, a1, a2, a3, a4, a5⟩ := HSX.out wr HBk.out
      clear hc hx hkl hxm hdx0 g0 g1 g2 g3 g4 g5
      go_wp2_with fail
      refine C.mono ?_
      rintro e w7 ⟨he, _, F7, hd7, hc7, hf7⟩
      have HD7 : Hid (DocAt w7 A (run l (k + 1)) F7) := by unfold Hid; rw [HRN.out]; exact hd7
      have HB7 : Hid (Below w.heap.size w w7) := hc7.below HFk.out HBk.out HBk.out.size
      have HF7 : Hid (∀ g, F7 g → w.heap.size ≤ g) := fun g hg => by
        rcases hf7 g hg with e | e
        · exact HFk.out g e
        · exact Nat.le_trans HBk.out.size e
      have HR7 : Hid (RowL w.heap.size w7 (.slice pd nd cd) L) := row_chg HR.out hc7 HNk.out
      have HN7 : Hid (∀ g, (Value.slice pd nd cd).ownBlock = some g → ¬ F7 g) := row_off HR.out HNk.out hf7
      clear hd7 hc7 hf7 C a0 a1 a2 a3 a4 a5
      obtain ⟨a0, a1, a2, a3, a4, a5⟩ := HSX.out w7 HB7.out
      cases hnw : isNew (run l k) ((xa, xb), xt, xp, xc, xs)
      · have HOP : Hid ((run l (k + 1)).ops = (run l k).ops) := by unfold Hid; rw [HRN.out]; exact ops_old hnw
        rw [hnw] at he
        by_cases h0 : apE (run l k) ((xa, xb), xt, xp, xc, xs) = 0
        · rw [h0, errV_zero] at he
          subst he
          clear hnw h0
          go_wp2_with fail
          go_roundw
          case rel => exact ⟨k + 1, F7, L, by omega, by omega, by go_num, ⟨_, _, _, rfl⟩, HR7, ⟨by rw [HOP.out]; exact HLK.out.1, by have := HLK.out.2; omega⟩, HGD, HD7, HF7, HN7, HB7⟩
          case measure => simp [intOf]; omega
        · obtain ⟨k9, hk9⟩ : ∃ k9, k9 = apE (run l k) ((xa, xb), xt, xp, xc, xs) := ⟨_, rfl⟩
          rw [errV_ne h0, ← hk9] at he
          subst he
          clear hnw h0 hk9
          go_wp2_with fail
          go_roundw
          case rel => exact ⟨k + 1, F7, L, by omega, by omega, by go_num, ⟨_, _, _, rfl⟩, HR7, ⟨by rw [HOP.out]; exact HLK.out.1, by have := HLK.out.2; omega⟩, HGD, HD7, HF7, HN7, HB7⟩
          case measure => simp [intOf]; omega
      · have HOP : Hid ((run l (k + 1)).ops = (run l k).ops ++ [((xa, xb), xt, xp, xc, xs)]) := by unfold Hid; rw [HRN.out]; exact ops_new hnw
        rw [hnw, new_zero hnw, errV_zero] at he
        subst he
        have HBA : Hid (Below w7.heap.size w7 (w7.alloc (.cells #[.int .i64 xa, .int .i64 xb, .int .i64 xt, .string xp, .int .i64 xc, .slice pv nv cv] 33))) := (Below.refl _ _).alloc (Nat.le_refl _) _
        have HLL : Hid (L.length ≤ k) := HLK.out.2
        have HRA : Hid ((w7.alloc (.cells #[.int .i64 xa, .int .i64 xb, .int .i64 xt, .string xp, .int .i64 xc, .slice pv nv cv] 33)).ownsRow w.heap.size 33 6 (.slice pd nd cd) L.length (flatO L)) := own_below HR7.out HBA.out
        clear hnw
        go_wp2_with (at_builtin; refine wpList_append_own_at _ rfl (.tmp 71) (.tmp 76) 22 rfl w.heap.size 33 i0 (.agg #[.int .i64 0, .int .i64 0, .int .i64 0, .string ⟨#[]⟩, .int .i64 0, .slice none 0 0]) 6 72 Tryz.underlying22 hi hz0 hz1 hz2 rfl (by decide) (.slice pd nd cd) L.length (flatO L) rfl HRA.out ⟨w7.heap.size, 0, none⟩ 1 1 (flatO [(((xa, xb), xt, xp, xc, xs), .slice pv nv cv)]) rfl rfl (six_laid w7 xa xb xt xp xc xs (.slice pv nv cv) _) (flatO_one _ (by intro y hy; rw [List.mem_singleton.1 hy]; exact ⟨_, _, _, rfl⟩)) (by have := HLL.out; unfold maxLen; omega) (by have := HLL.out; omega) (Nat.le_trans HB7.out.size HBA.out.size) ?_; intro v9 w9 hown9 hgrow9 _ hat9; obtain ⟨p9, n9, c9, rfl, _⟩ := own_shape hown9; have HR9 : Hid (RowL w.heap.size w9 (.slice p9 n9 c9) (L ++ [(((xa, xb), xt, xp, xc, xs), .slice pv nv cv)])) := (by unfold Hid RowL; rw [List.length_append, flatO_append]; exact hown9); have HB9 : Hid (Below w.heap.size w w9) := own_grow HRA.out (bel HB7.out HBA.out) hgrow9 (Nat.le_trans HB7.out.size HBA.out.size); have HD9 : Hid (DocAt w9 A (run l (k + 1)) F7) := doc_row (HD7.out.below HBA.out) hgrow9 HN7.out; have HN9 : Hid (∀ g, (Value.slice p9 n9 c9).ownBlock = some g → ¬ F7 g) := (by intro g hg e; rcases hat9 with e9 | e9; (exact HN7.out g (e9 ▸ hg) e); (rw [hg] at e9; injection e9 with e9; have q1 := HD7.out.lt g e; have q2 := HBA.out.size; omega)); clear hown9 hgrow9 hat9)
        go_roundw
        case rel => exact ⟨k + 1, F7, _, by omega, by omega, by go_num, ⟨_, _, _, rfl⟩, HR9, ⟨by rw [HOP.out, List.map_append, HLK.out.1]; rfl, by rw [List.length_append]; have := HLK.out.2; simp; omega⟩, fun y hy => by (rcases List.mem_append.1 hy with e | e; (exact HGD.out y e); (rw [List.mem_singleton.1 e]; exact HDX.out)), HD9, HF7, HN9, HB9⟩
        case measure => simp [intOf]; omega
    case false =>
      obtain ⟨S, hS⟩ : ∃ S, S = run l k := ⟨_, rfl⟩
      have HI : Hid (Inv S) := by unfold Hid; rw [hS]; exact run_inv l k
      have HL60 : Hid (L.length ≤ 60) := by have := HLK.out.2; unfold Hid; omega
      have HSL : Hid (S.ops.length = L.length) := by unfold Hid; rw [hS, ← HLK.out.1, List.length_map]
      have HPR : Hid (Pre S d0 [] (L.map (·.1))) := by
        unfold Hid
        rw [HLK.out.1, ← hS]
        exact Pre.start (by rw [hS]; exact run_inv l k) (by rw [hS]; exact run_ord l k) (by rw [HSL.out]; exact HL60.out)
      rw [← hS] at HDk
      obtain ⟨B2, hB2⟩ : ∃ B2, B2 = wr.heap.size := ⟨_, rfl⟩
      have HA2 : Hid (∀ g, Fk g → g < B2) := fun g hg => by rw [hB2]; exact HDk.out.lt g hg
      have HR2 : Hid (∀ g, (Value.slice pd nd cd).ownBlock = some g → g < B2) := fun g hg => by rw [hB2]; exact (own_lt HR.out g hg).1
      have HND : Hid (L.length = nd) := by
        rcases HR.out.shape with ⟨e, e2⟩ | ⟨g9, c9, e, _⟩
        · injection e with _ e _; rw [e2, e]; rfl
        · injection e with _ e _; exact e.symm
      have CN : Calls Tryz.prog 9 #[] wr fun e w' => ∃ D F, e = .returned (.pointer (some ⟨D, 0, none⟩)) ∧ DocAt w' D d0 F ∧ (∀ g, F g → B2 ≤ g) ∧ Below wr.heap.size wr w' := by rw [hB2]; exact new_any wr
      have HBK2 : Hid (B2 = wr.heap.size) := hB2
      clear hS HSZ HLI HLK hB2
      go_wp2_with fail
      refine CN.mono ?_
      rintro e w7 ⟨E, F7, rfl, hd7, hf7, hb7⟩
      have HFD7 : Hid (∀ g, F7 g → B2 ≤ g) := hf7
      have HB7 : Hid (Below wr.heap.size wr w7) := hb7
      have CB := buf_new E d0 F7 w7 hd7
      clear hd7 hf7 hb7 CN
      go_wp2_with fail
      refine CB.mono ?_
      rintro e w8 ⟨BB, F8, rfl, hq8, hf8, hb8⟩
      have hb78 := bel HB7.out hb8
      have HE8 : Hid (BufAt w8 BB E d0 [] F8) := hq8
      have HFE8 : Hid (∀ g, F8 g → B2 ≤ g) := fun g hg => by
        rcases hf8 g hg with e | e
        · exact HFD7.out g e
        · rw [HBK2.out]; exact Nat.le_trans HB7.out.size e
      have HA8 : Hid (DocAt w8 A S Fk) := HDk.out.below hb78
      have HR8 : Hid (RowL w.heap.size w8 (.slice pd nd cd) L) := own_below HR.out hb78
      have HN8 : Hid (∀ g, (Value.slice pd nd cd).ownBlock = some g → ¬ Fk g ∧ ¬ F8 g) := fun g hg => ⟨HNk.out g hg, fun e => by have := HR2.out g hg; have := HFE8.out g e; omega⟩
      have HB8 : Hid (Below w.heap.size w w8) := bel HBk.out hb78
      have HB2 : Hid (w.heap.size ≤ B2) := by unfold Hid; rw [HBK2.out]; exact HBk.out.size
      have hB2le : Hid (B2 ≤ w8.heap.size) := by unfold Hid; rw [HBK2.out]; exact hb78.size
      clear hq8 hf8 hb8 CB HDk HR HNk HBk hb78 HFD7 HB7
      go_wp2_with fail
      go_loopw [10, 16, 17] (fun vL vs vi wr => ∃ (i N c m : Nat) (p : Option Addr) (T : Dq) (LW : List Ox) (FB : Nat → Prop) (L : List (Ox × Value)), vi = .int .i64 i ∧ vs = .int .i64 m ∧ vL = .slice p N c ∧ i + N ≤ 60 ∧ m ≤ 60 ∧ Hid (m = T.ops.length) ∧ Hid (L.length = N) ∧ Hid (RowL w.heap.size wr vL L) ∧ Hid (Pre S T LW (L.map (·.1)) ∧ nextO T LW = none) ∧ Hid (OkL w L) ∧ Hid (DocAt wr A S Fk) ∧ Hid (BufAt wr BB E T LW FB) ∧ Hid (∀ g, FB g → B2 ≤ g) ∧ Hid (∀ g, vL.ownBlock = some g → ¬ Fk g ∧ ¬ FB g) ∧ Hid (B2 ≤ wr.heap.size) ∧ Hid (Below w.heap.size w wr)) (fun vL _ _ _ => slen vL)
      case atStart => exact ⟨0, nd, cd, 0, pd, d0, [], F8, L, rfl, rfl, rfl, by have := HND.out; have := HL60.out; omega, by omega, rfl, HND, HR8, ⟨HPR.out, by rfl⟩, HGD, HA8, HE8, HFE8, HN8, hB2le, HB8⟩
      case round =>
        have HSN : Hid (S.ops.length = nd) := by unfold Hid; rw [HSL.out, HND.out]
        clear HE8 HFE8 HA8 HR8 HN8 HB8 HPR HGD HND HL60 HR2 hB2le HSL
        obtain ⟨i, N, c, m, p, T, LW, FB, L, rfl, rfl, rfl, hiN, hm60, HMM, HLN, HR, HPR, HGD, HA, HE, HFE, HNN, HBZ, HB⟩ := hrel
        by_cases hN : N = 0
        · subst hN
          have hL0 : L = [] := List.eq_nil_of_length_eq_zero HLN.out
          subst hL0
          obtain ⟨hp1, hp2⟩ := HPR.out
          have hLW : LW = [] := Pre.none hp1 hp2
          subst hLW
          obtain ⟨m1, m2, m3, m4⟩ := Pre.all hp1
          have HMB : Hid (S.book = T.book ∧ S.marks = T.marks) := ⟨m1, m2⟩
          obtain rfl : m = nd := by rw [HMM.out, m4, HSN.out]
          have CB1 := book_get A S Fk wr HA.out
          clear m1 m2 m3 m4 hp1 hp2 HR HLN HPR HGD HNN HFE
          go_wp2_with fail
          refine CB1.mono ?_
          rintro e x1 ⟨v1, rfl, hk1, hb1⟩
          have HK1 : Hid (BookAt x1 v1 S.book) := hk1.1
          have HA1 : Hid (DocAt x1 A S Fk) := HA.out.below hb1
          have HE1 : Hid (BufAt x1 BB E T [] FB) := HE.out.below hb1
          have HB1 : Hid (Below w.heap.size w x1) := bel HB.out hb1
          have CD1 := buf_doc BB E T [] FB x1 HE1.out
          obtain ⟨FD, hfd1, hfd2⟩ := HE1.out.doc
          have CB2 := book_get E T FD x1 hfd1
          clear hk1 hb1 CB1 HA HE HB hfd1 hfd2
          go_wp2_with fail
          refine CD1.mono ?_
          rintro e x1' ⟨rfl, hx1⟩
          have hx1s := hx1.symm
          subst hx1s
          clear hx1 CD1
          go_wp2_with fail
          refine CB2.mono ?_
          rintro e x2 ⟨v2, rfl, hk2, hb2⟩
          have CL := Lk.leafs_any v1 v2 S.book T.book x2 (HK1.out.below hb2) hk2.1 (by have := few_book HI.out; omega)
          rw [decide_eq_true HMB.out.1] at CL
          have HA2' : Hid (DocAt x2 A S Fk) := HA1.out.below hb2
          have HE2 : Hid (BufAt x2 BB E T [] FB) := HE1.out.below hb2
          have HB2' : Hid (Below w.heap.size w x2) := bel HB1.out hb2
          clear hk2 hb2 CB2 HA1 HE1 HB1 HK1
          go_wp2_with fail
          refine CL.mono ?_
          rintro e x3 ⟨rfl, hb3⟩
          have HA3 : Hid (DocAt x3 A S Fk) := HA2'.out.below hb3
          have HE3 : Hid (BufAt x3 BB E T [] FB) := HE2.out.below hb3
          have HB3 : Hid (Below w.heap.size w x3) := bel HB2'.out hb3
          have CM1 := marks_get A S Fk x3 HA3.out
          clear hb3 CL HA2' HE2 HB2'
          go_wp2_with fail
          refine CM1.mono ?_
          rintro e x4 ⟨v4, rfl, hk4, hb4⟩
          have HK4 : Hid (MksAt x4 v4 S.marks) := hk4.1
          have HE4 : Hid (BufAt x4 BB E T [] FB) := HE3.out.below hb4
          have HB4 : Hid (Below w.heap.size w x4) := bel HB3.out hb4
          have CD2 := buf_doc BB E T [] FB x4 HE4.out
          obtain ⟨FD2, hfd1, hfd2⟩ := HE4.out.doc
          have CM2 := marks_get E T FD2 x4 hfd1
          clear hk4 hb4 CM1 HA3 HE3 HB3 hfd1 hfd2
          go_wp2_with fail
          refine CD2.mono ?_
          rintro e x4' ⟨rfl, hx1⟩
          have hx1s := hx1.symm
          subst hx1s
          clear hx1 CD2
          go_wp2_with fail
          refine CM2.mono ?_
          rintro e x5 ⟨v5, rfl, hk5, hb5⟩
          have CMM := Np.marks_any v4 v5 S.marks T.marks x5 (HK4.out.below hb5) hk5.1 (by have := few_marks HI.out; omega)
          rw [decide_eq_true HMB.out.2] at CMM
          have HE5 : Hid (BufAt x5 BB E T [] FB) := HE4.out.below hb5
          have HB5 : Hid (Below w.heap.size w x5) := bel HB4.out hb5
          clear hk5 hb5 CM2 HE4 HB4 HK4
          go_wp2_with fail
          refine CMM.mono ?_
          rintro e x6 ⟨rfl, hb6⟩
          have HB6 : Hid (Below w.heap.size w x6) := bel HB5.out hb6
          have CW := buf_waits BB E T [] FB x6 (HE5.out.below hb6)
          clear hb6 CMM HE5 HB5
          go_wp2_with fail
          refine CW.mono ?_
          rintro e x7 ⟨v7, rfl, hr7, hb7⟩
          obtain ⟨p7, n7, c7, rfl, HN7⟩ := own_shape hr7
          obtain rfl : n7 = 0 := HN7.out
          have HB7 : Hid (Below w.heap.size w x7) := bel HB6.out hb7
          clear hr7 hb7 CW HN7 HB6
          go_wp2_with fail
          go_ret
          exact ⟨rfl, HB7.out⟩
        · have hN0 : (0 : Int) < N := by omega
          obtain ⟨g, rfl⟩ : ∃ g, p = some ⟨g, 0, none⟩ := by
            rcases HR.out.shape with ⟨e, e2⟩ | ⟨g9, c9, e, _⟩
            · injection e with _ e _; exact absurd e hN
            · injection e with e _ _; exact ⟨g9, e⟩
          have HCC : Hid (N ≤ c ∧ c ≤ maxLen) := by
            rcases HR.out.shape with ⟨e, e2⟩ | ⟨g9, c9, e, _, h1, h2⟩
            · cases e
            · injection e with _ e3 e4; rw [HLN.out] at h1; rw [e4]; exact ⟨h1, h2⟩
          go_upto_region 21 with fail
          go_cut [106] from 82 to 137 (fun s103 wx => ∃ t : Bool, s103 = .bool t ∧ Hid (t = true → i < no ∧ ∃ q : Nat, od.getD i 0 = q ∧ q < N) ∧ wr = wx)
          case first =>
            by_cases hi1 : i < no
            · have hi1z : (i : Int) < no := by omega
              have hio : i < od.length := by rw [HNO.out]; exact hi1
              obtain ⟨bi, oi, rfl, hci⟩ := HOI.out.some (by intro e; rw [e] at hio; simp at hio)
              have hcell := (HB.out.cell (p := ⟨bi, oi + i, none⟩) (World.block_lt_of_cell? _ _ (hci i hio))).trans (hci i hio)
              obtain ⟨x, hx⟩ : ∃ x, x = od.getD i 0 := ⟨_, rfl⟩
              rw [← hx] at hcell
              have HX : Hid (x = od.getD i 0) := hx
              clear hci hio hx
              by_cases hx0 : 0 ≤ x
              · obtain ⟨q, rfl⟩ : ∃ q : Nat, x = q := ⟨x.toNat, by omega⟩
                by_cases hxN : q < N
                · have hxNz : (q : Int) < N := by omega
                  go_wp2_with fail
                  go_meet
                  case rel => exact ⟨true, rfl, fun _ => ⟨hi1, q, HX.out.symm, hxN⟩, rfl⟩
                · have hxNz : ¬ (q : Int) < N := by omega
                  go_wp2_with fail
                  go_meet
                  case rel => exact ⟨false, by simp [hxN], fun h => (by cases h), rfl⟩
              · have hx0z : x < 0 := by omega
                go_wp2_with fail
                go_meet
                case rel => exact ⟨false, rfl, fun h => (by cases h), rfl⟩
            · have hi1z : ¬ (i : Int) < no := by omega
              go_wp2_with fail
              go_meet
              case rel => exact ⟨false, rfl, fun h => (by cases h), rfl⟩
          case rest =>
          obtain ⟨t, rfl, HT, rfl⟩ := hcut
          go_upto_if 106 with fail
          go_cut [18] from 82 to 137 (fun s18 wx => ∃ q : Nat, s18 = .int .i64 q ∧ Hid (q < N) ∧ wr = wx)
          case first =>
            cases t
            · go_wp2_with fail
              go_meet
              case rel => exact ⟨0, rfl, by unfold Hid; omega, rfl⟩
            · obtain ⟨hi1, q, hq, hqN⟩ := HT.out rfl
              have hi1z : (i : Int) < no := by omega
              have hio : i < od.length := by rw [HNO.out]; exact hi1
              obtain ⟨bi, oi, rfl, hci⟩ := HOI.out.some (by intro e; rw [e] at hio; simp at hio)
              have hcell := (HB.out.cell (p := ⟨bi, oi + i, none⟩) (World.block_lt_of_cell? _ _ (hci i hio))).trans (hci i hio)
              rw [hq] at hcell
              have HQN : Hid (q < N) := hqN
              clear hci hio hq hqN
              go_wp2_with fail
              go_meet
              case rel => exact ⟨q, rfl, HQN, rfl⟩
          case rest =>
          obtain ⟨q, rfl, HQ0, rfl⟩ := hcut
          clear HT
          have hqN : q < N := HQ0.out
          have hqNz : (q : Int) < N := by omega
          obtain ⟨y, hy⟩ : ∃ y, L[q]? = some y := ⟨_, List.getElem?_eq_getElem (by rw [HLN.out]; exact hqN)⟩
          have hqL : q < L.length := by rw [HLN.out]; exact hqN
          have hsp : L.map (·.1) = (L.take q).map (·.1) ++ y.1 :: (L.drop (q + 1)).map (·.1) := by
            have e1 : L = L.take q ++ y :: L.drop (q + 1) := by
              have e2 : L[q] = y := by rw [List.getElem?_eq_getElem hqL] at hy; injection hy
              rw [← e2, ← List.drop_eq_getElem_cons hqL, List.take_append_drop]
            have e3 := congrArg (List.map (fun z : Ox × Value => z.1)) e1
            rw [List.map_append, List.map_cons] at e3
            exact e3
          have hgy := HGD.out y (List.mem_of_getElem? hy)
          have hpr := HPR.out.1
          rw [hsp] at hpr
          obtain ⟨⟨⟨ya, yb⟩, yt, yp, yc, ys⟩, yv⟩ := y
          obtain ⟨hd1, hp1⟩ := hgy
          simp only at hd1 hp1 hpr
          obtain ⟨pv, nv, cv, rfl⟩ : ∃ pv nv cv, yv = .slice pv nv cv := by obtain ⟨_, _, e9, _⟩ := hd1; exact ⟨_, _, _, e9⟩
          have HSX : Hid (wr.cell? ⟨g, q * 6, none⟩ = some (.int .i64 ya) ∧ wr.cell? ⟨g, q * 6 + 1, none⟩ = some (.int .i64 yb) ∧ wr.cell? ⟨g, q * 6 + 2, none⟩ = some (.int .i64 yt) ∧ wr.cell? ⟨g, q * 6 + 3, none⟩ = some (.string yp) ∧ wr.cell? ⟨g, q * 6 + 4, none⟩ = some (.int .i64 yc) ∧ wr.cell? ⟨g, q * 6 + 5, none⟩ = some (.slice pv nv cv)) := by
            have h6 := HR.out.six hy
            have h0 := h6 0 _ rfl
            rw [Nat.add_zero] at h0
            exact ⟨h0, h6 1 _ rfl, h6 2 _ rfl, h6 3 _ rfl, h6 4 _ rfl, h6 5 _ rfl⟩
          have HFE2 : Hid (∀ g, FB g → w.heap.size ≤ g) := fun g hg => Nat.le_trans HB2.out (HFE.out g hg)
          have C := put_any BB E T LW FB ya yb yt yp yc (.slice pv nv cv) ys wr HE.out (hd1.below HB.out) hp1
          obtain ⟨_, _, _, hput⟩ := put_pre hpr
          obtain ⟨a0, a1, a2, a3, a4, a5⟩ := HSX.out
          clear hd1 hp1 hpr hsp hy hqL
          go_wp2_with fail
          refine C.mono ?_
          rintro e w7 ⟨he, F7, hd7, hc7, hf7⟩
          have HB7 : Hid (Below w.heap.size w w7) := hc7.below HFE2.out HB.out HB.out.size
          have HA7 : Hid (DocAt w7 A S Fk) := HA.out.chg hc7 (fun g h1 h2 => by have := HA2.out g h1; have := HFE.out g h2; omega)
          have HR7 : Hid (RowL w.heap.size w7 (.slice (some ⟨g, 0, none⟩) N c) L) := row_chg HR.out hc7 (fun g hg => (HNN.out g hg).2)
          have HF7 : Hid (∀ g, F7 g → B2 ≤ g) := fun g hg => by
            rcases hf7 g hg with e | e
            · exact HFE.out g e
            · exact Nat.le_trans HBZ.out e
          have HE7 : Hid (BufAt w7 BB E (putR T LW ((ya, yb), yt, yp, yc, ys)).2.1 (putR T LW ((ya, yb), yt, yp, yc, ys)).2.2 F7) := hd7
          clear C a0 a1 a2 a3 a4 a5 hd7 hc7 hf7
          rcases hput with h4 | ⟨h40, hpr2, hnx2, hsum⟩
          · obtain ⟨r1, hr1⟩ : ∃ r1, r1 = (putR T LW ((ya, yb), yt, yp, yc, ys)).1.1 := ⟨_, rfl⟩
            rw [h4, errV_ne (by decide), ← hr1] at he
            subst he
            have CE := Kl.same_err 4 4 w7 (Kl.ET.below HG.out HB7.out)
            clear h4 hr1
            go_wp2_with fail
            refine CE.mono ?_
            rintro e w8 ⟨rfl, hb8⟩
            have HB8 : Hid (Below w.heap.size w w8) := bel HB7.out hb8
            clear hb8 CE
            go_wp2_with fail
            go_ret
            exact ⟨rfl, HB8.out⟩
          · obtain ⟨r1, hr1⟩ : ∃ r1, r1 = (putR T LW ((ya, yb), yt, yp, yc, ys)).1.1 := ⟨_, rfl⟩
            rw [h40, errV_zero, ← hr1] at he
            subst he
            have hlen2 := hpr2.len
            have hfew2 := hpr2.few
            obtain ⟨m2, hm2⟩ : ∃ m2, m2 = (putR T LW ((ya, yb), yt, yp, yc, ys)).2.1.ops.length := ⟨_, rfl⟩
            have hm260 : m2 ≤ 60 := by omega
            have hr12 : r1 = (m2 : Int) - (m : Int) := by rw [hr1, hsum, hm2, HMM.out]
            subst hr12
            have HPR2 : Hid (Pre S (putR T LW ((ya, yb), yt, yp, yc, ys)).2.1 (putR T LW ((ya, yb), yt, yp, yc, ys)).2.2 ((L.take q ++ L.drop (q + 1)).map (·.1)) ∧ nextO (putR T LW ((ya, yb), yt, yp, yc, ys)).2.1 (putR T LW ((ya, yb), yt, yp, yc, ys)).2.2 = none) := ⟨by rw [List.map_append]; exact hpr2, hnx2⟩
            have HMM2 : Hid (m2 = (putR T LW ((ya, yb), yt, yp, yc, ys)).2.1.ops.length) := hm2
            clear hpr2 hnx2 hsum hlen2 hfew2 hm2 hr1 h40
            have HRQ : Hid (RowL w.heap.size w7 (.slice (some ⟨g, 0, none⟩) N c) L) := HR7.out
            have HCL := HRQ.out.cells
            have HCT : Hid (∀ (j : Nat) (u : Value), (flatO (L.take q))[j]? = some u → w7.cell? ((⟨g, 0, none⟩ : Addr).add j) = some u) := fun j u hu => by rw [Addr.add_lit, Nat.zero_add]; exact HCL j u (flatO_take L q j u hu)
            have HLQ : Hid ((L.take q).length = q ∧ (L.drop (q + 1)).length = N - (q + 1)) := ⟨by rw [List.length_take, HLN.out]; omega, by rw [List.length_drop, HLN.out]⟩
            obtain ⟨ad, had⟩ : ∃ ad, (if c = q + 1 then some (⟨g, 0, none⟩ : Addr) else some ⟨g, (q + 1) * 6, none⟩) = some ad := by
              by_cases e : c = q + 1
              · exact ⟨⟨g, 0, none⟩, by rw [if_pos e]⟩
              · exact ⟨⟨g, (q + 1) * 6, none⟩, by rw [if_neg e]⟩
            have HCD : Hid (∀ W, Below w7.heap.size w7 W → ∀ (j : Nat) (u : Value), (flatO (L.drop (q + 1)))[j]? = some u → W.cell? (ad.add j) = some u) := fun W hb j u hu => by
              by_cases e : c = q + 1
              · have hz : L.drop (q + 1) = [] := List.drop_of_length_le (by rw [HLN.out]; have := HCC.out.1; omega)
                rw [hz] at hu; simp [flatO] at hu
              · rw [if_neg e] at had
                injection had with had
                rw [← had, Addr.add_lit]
                exact keep_cell hb (HCL _ u (flatO_drop L (q + 1) (by rw [HLN.out]; omega) j u hu))
            have hqz : (q : Int) ≤ c := by have := HCC.out.1; omega
            have hqz2 : (q : Int) + 1 ≤ N := by omega
            have hqz3 : (q : Int) + 1 ≤ c := by have := HCC.out.1; omega
            have hcm9 : c ≤ 9223372036854775807 := by have := HCC.out.2; unfold maxLen at this; omega
            have HSH : Hid (∀ y ∈ L, ∃ p n c, y.2 = .slice p n c) := HGD.out.shape
            clear HCL
            go_wp2_with (first
              | (at_builtin; refine wpList_append_own_at _ rfl (.tmp 127) (.tmp 130) 22 rfl w.heap.size 33 i0 (.agg #[.int .i64 0, .int .i64 0, .int .i64 0, .string ⟨#[]⟩, .int .i64 0, .slice none 0 0]) 6 72 Tryz.underlying22 hi hz0 hz1 hz2 rfl (by decide) (.slice none 0 0) 0 [] rfl (World.ownsRow_nil _ _ _ _) ⟨g, 0, none⟩ q c (flatO (L.take q)) rfl (by rw [flatO_length, HLQ.out.1]) HCT.out (flatO_one _ fun y hy => HSH.out y (List.mem_of_mem_take hy)) (by unfold maxLen; omega) (by omega) HB7.out.size ?_; intro v9 w9 hown9 hgrow9 _ hat9; obtain ⟨p9, n9, c9, rfl, _⟩ := own_shape hown9; have HO9 : Hid (w9.ownsRow w.heap.size 33 6 (.slice p9 n9 c9) q (flatO (L.take q))) := (by have h9 := hown9; rw [Nat.zero_add, List.nil_append] at h9; exact h9); have HB9 : Hid (Below w7.heap.size w7 w9) := ⟨hgrow9.os, hgrow9.tape, hgrow9.output, hgrow9.size, fun j hj => hgrow9.block j hj (by intro e; cases e)⟩; have HAT9 : Hid (∀ g, (Value.slice p9 n9 c9).ownBlock = some g → w7.heap.size ≤ g) := (by intro g hg; rcases hat9 with e9 | e9; (rw [hg] at e9; cases e9); (rw [hg] at e9; injection e9 with e9; omega)); have HCD9 := HCD.out w9 HB9.out; clear hown9 hgrow9 hat9)
              | (at_builtin; refine wpList_append_own_at _ rfl (.tmp 132) (.tmp 136) 22 rfl w.heap.size 33 i0 (.agg #[.int .i64 0, .int .i64 0, .int .i64 0, .string ⟨#[]⟩, .int .i64 0, .slice none 0 0]) 6 72 Tryz.underlying22 hi hz0 hz1 hz2 rfl (by decide) (.slice p9 n9 c9) q (flatO (L.take q)) rfl HO9.out ad (N - (q + 1)) (c - (q + 1)) (flatO (L.drop (q + 1))) rfl (by rw [flatO_length, HLQ.out.2]) HCD9 (flatO_one _ fun y hy => HSH.out y (List.mem_of_mem_drop hy)) (by unfold maxLen; omega) (by omega) (Nat.le_trans HB7.out.size HB9.out.size) ?_; intro v10 w10 hown10 hgrow10 _ hat10; obtain ⟨p10, n10, c10, rfl, HNN10⟩ := own_shape hown10; have HR10 : Hid (RowL w.heap.size w10 (.slice p10 n10 c10) (L.take q ++ L.drop (q + 1))) := (by unfold Hid RowL; rw [List.length_append, HLQ.out.1, HLQ.out.2, flatO_append]; exact hown10); have HB10 : Hid (Below w.heap.size w w10) := own_grow HO9.out (bel HB7.out HB9.out) hgrow10 (Nat.le_trans HB7.out.size HB9.out.size); have HA10 : Hid (DocAt w10 A S Fk) := doc_row (HA7.out.below HB9.out) hgrow10 (fun g hg e => by have := HAT9.out g hg; have := HA7.out.lt g e; omega); have HE10 : Hid (BufAt w10 BB E (putR T LW ((ya, yb), yt, yp, yc, ys)).2.1 (putR T LW ((ya, yb), yt, yp, yc, ys)).2.2 F7) := buf_row (HE7.out.below HB9.out) hgrow10 (fun g hg e => by have := HAT9.out g hg; have := HE7.out.lt g e; omega); have HN10 : Hid (∀ g, (Value.slice p10 n10 c10).ownBlock = some g → ¬ Fk g ∧ ¬ F7 g) := (by intro g hg; have q0 : w7.heap.size ≤ g := (by rcases hat10 with e9 | e9; (exact HAT9.out g (e9 ▸ hg)); (rw [hg] at e9; injection e9 with e9; have := HB9.out.size; omega)); exact ⟨fun e => by have := HA7.out.lt g e; omega, fun e => by have := HE7.out.lt g e; omega⟩); clear hown10 hgrow10 hat10))
            go_roundw
            case rel => exact ⟨i + 1, n10, c10, m2, p10, (putR T LW ((ya, yb), yt, yp, yc, ys)).2.1, (putR T LW ((ya, yb), yt, yp, yc, ys)).2.2, F7, L.take q ++ L.drop (q + 1), by go_num, by go_num, rfl, by have := HNN10.out; omega, hm260, HMM2, by (unfold Hid; rw [List.length_append, HLQ.out.1, HLQ.out.2, HNN10.out]), HR10, HPR2, fun y hy => by (rcases List.mem_append.1 hy with e | e; (exact HGD.out y (List.mem_of_mem_take e)); (exact HGD.out y (List.mem_of_mem_drop e))), HA10, HE10, HF7, HN10, by (unfold Hid; have h1 := HE10.out.lt BB HE10.out.self; have h2 := HF7.out BB HE10.out.self; omega), HB10⟩
            case measure => simp only [slen]; have := HNN10.out; omega

end Jk
end Go.Proofs.YtnniggjeadlbgaaGreatDoor
