/- Both ways to a document: the program's and the reference's, op by op. -/
import Derived.Test.YtnniggjeadlbgaaGreatDoorXg
import Derived.Test.YtnniggjeadlbgaaGreatDoorUx
import Derived.Deep.DeepCutAuto
namespace Go.Proofs.YtnniggjeadlbgaaGreatDoor
namespace Ya
set_option linter.unusedVariables false
set_option linter.unusedSimpArgs false
open Go.ChangeShapes Go.WideShapes Go.ChangeAt Go.RowKit Cm Ka Kb Na Om Oa Oz Oc Og Oi Hm Ia Ib Ic Idc Ie If Ig Ih Ii Ij Ik Il Im Iq Xa
open La (bel bel_drew errV_zero errV_ne own_ge own_grow own_below Lies)
open Lj (BookAt BookNew)
open Kt (ET)
open Xg (in_old)

set_option maxRecDepth 100000 in
set_option maxHeartbeats 8000000 in
theorem both_any (vl : Value) (l : List Ox) (w : World) (hl : OpsAt w vl l) (hsz : ∀ x ∈ l, x.2.2.1.size ≤ maxLen) (hg : ET w) :
    Calls Tryz.prog 24 #[vl] w fun e w' => ∃ (D E : Nat) (S : Dq) (Fd Fr : Nat → Prop), e = .returned (.tuple #[.pointer (some ⟨D, 0, none⟩), .pointer (some ⟨E, 0, none⟩), .bool true]) ∧ DocAt w' D S Fd ∧ RefAt w.heap.size w' E S Fr ∧ (∀ g, Fd g → w.heap.size ≤ g) ∧ (∀ g, Fr g → ¬ Fd g) ∧ Below w.heap.size w w' := by
  obtain ⟨ql, cl, rfl, hlin, _⟩ := hl
  obtain ⟨n, hn⟩ : ∃ n, n = l.length := ⟨_, rfl⟩
  rw [← hn]
  have HN : Hid (l.length = n) := hn.symm
  have HLI : Hid (OpsIn w ql l) := hlin
  have HSZ : Hid (∀ x ∈ l, x.2.2.1.size ≤ maxLen) := hsz
  have HG : Hid (ET w) := hg
  clear hlin hsz hn hg
  go_enter Tryz.func24, Tryz.ntmps24
  go_wp2_with fail
  refine (new_any w).mono ?_
  rintro e w1 ⟨D, F1, rfl, hd1, hf1, hb1⟩
  have HD1 : Hid (DocAt w1 D (run l 0) F1) := hd1
  have HF1 : Hid (∀ g, F1 g → w.heap.size ≤ g) := hf1
  have HB1 : Hid (Below w.heap.size w w1) := hb1
  clear hd1 hf1 hb1
  go_wp2_with fail
  refine (Xb.new_ref w.heap.size w1 HB1.out.size).mono ?_
  rintro e w2 ⟨E, F2, rfl, hd2, hf2, hb2⟩
  have HE2 : Hid (RefAt w.heap.size w2 E (run l 0) F2) := hd2
  have HD2 : Hid (DocAt w2 D (run l 0) F1) := HD1.out.below hb2
  have HX2 : Hid (∀ g, F2 g → ¬ F1 g) := fun g h2 h1 => by have := hf2 g h2; have := HD1.out.lt g h1; omega
  have HB2 : Hid (Below w.heap.size w w2) := bel HB1.out hb2
  clear hd2 hf2 hb2 HD1 HB1
  go_wp2_with fail
  go_loopw [7] (fun vi wr => ∃ (k : Nat) (Fd Fr : Nat → Prop), k ≤ n ∧ k ≤ 60 ∧ vi = .int .i64 k ∧ Hid (DocAt wr D (run l k) Fd) ∧ Hid (RefAt w.heap.size wr E (run l k) Fr) ∧ Hid (∀ g, Fd g → w.heap.size ≤ g) ∧ Hid (∀ g, Fr g → ¬ Fd g) ∧ Hid (Below w.heap.size w wr)) (fun vi _ => 60 - (intOf vi).toNat)
  case atStart => exact ⟨0, F1, F2, by omega, by omega, rfl, HD2, HE2, HF1, HX2, HB2⟩
  case round =>
    clear HD2 HE2 HF1 HX2 HB2
    obtain ⟨k, Fd, Fr, hk, hk60, rfl, HDk, HEk, HFk, HXk, HBk⟩ := hrel
    go_upto_region 4 with fail
    go_cut [22] from 15 to 52 (fun s22 wx => ∃ t : Bool, s22 = .bool t ∧ Hid (t = decide (k < n ∧ k < 60)) ∧ wr = wx)
    case first =>
      by_cases h1 : k < n
      · have h1z : (k : Int) < n := by omega
        by_cases h2 : k < 60
        · have h2z : (k : Int) < 60 := by omega
          go_wp2_with fail
          go_meet
          case rel => exact ⟨true, rfl, (decide_eq_true ⟨h1, h2⟩).symm, rfl⟩
        · have h2z : ¬ (k : Int) < 60 := by omega
          have H2 : Hid (decide (k < n ∧ k < 60) = false) := decide_eq_false (fun h => h2 h.2)
          go_wp2_with fail
          go_meet
          case rel => exact ⟨false, by simp [h2], H2.out.symm, rfl⟩
      · have h1z : ¬ (k : Int) < n := by omega
        have H2 : Hid (decide (k < n ∧ k < 60) = false) := decide_eq_false (fun h => h1 h.1)
        go_wp2_with fail
        go_meet
        case rel => exact ⟨false, rfl, H2.out.symm, rfl⟩
    case rest =>
    obtain ⟨tt, rfl, HTT, rfl⟩ := hcut
    cases tt
    case true =>
      obtain ⟨hlt1, hlt2⟩ := of_decide_eq_true HTT.out.symm
      have hltz : (k : Int) < n := by omega
      have hkl : k < l.length := by rw [HN.out]; exact hlt1
      obtain ⟨bo, oo, rfl, hc⟩ := HLI.out.some (by intro e; rw [e] at hkl; simp at hkl)
      have ha0 := hc k hkl
      have hxm := HSZ.out _ (getO_mem hkl)
      have HRN : Hid (run l (k + 1) = apS (run l k) (l.getD k oz)) := run_next hkl
      obtain ⟨x, hx⟩ : ∃ x, x = l.getD k oz := ⟨_, rfl⟩
      rw [← hx] at ha0 hxm HRN
      obtain ⟨⟨xa, xb⟩, xt, xp, xc, xs⟩ := x
      obtain ⟨vx, ⟨g0, g1, g2, g3, g4, g5⟩, hdx0⟩ := ha0
      simp only at g0 g1 g2 g3 g4 g5 hdx0 hxm
      obtain ⟨pv, nv, cv, rfl⟩ : ∃ pv nv cv, vx = .slice pv nv cv := by obtain ⟨_, _, e9, _⟩ := hdx0; exact ⟨_, _, _, e9⟩
      have HSX : Hid (∀ W, Below w.heap.size w W → W.cell? ⟨bo, oo + k * 6, none⟩ = some (.int .i64 xa) ∧ W.cell? ⟨bo, oo + k * 6 + 1, none⟩ = some (.int .i64 xb) ∧ W.cell? ⟨bo, oo + k * 6 + 2, none⟩ = some (.int .i64 xt) ∧ W.cell? ⟨bo, oo + k * 6 + 3, none⟩ = some (.string xp) ∧ W.cell? ⟨bo, oo + k * 6 + 4, none⟩ = some (.int .i64 xc) ∧ W.cell? ⟨bo, oo + k * 6 + 5, none⟩ = some (.slice pv nv cv)) := fun W hb => ⟨keep_cell hb g0, keep_cell hb g1, keep_cell hb g2, keep_cell hb g3, keep_cell hb g4, keep_cell hb g5⟩
      have HDX : Hid (DtsAt w (.slice pv nv cv) xs ∧ xp.size ≤ maxLen) := ⟨hdx0, hxm⟩
      have CR := Xf.apply_ref w.heap.size E (run l k) Fr xa xb xt xp xc (.slice pv nv cv) xs wr HEk.out (hdx0.below HBk.out) (in_old hdx0) hxm
      obtain ⟨a0, a1, a2, a3, a4, a5⟩ := HSX.out wr HBk.out
      clear hc hx hkl hxm hdx0 g0 g1 g2 g3 g4 g5
      go_wp2_with fail
      refine CR.mono ?_
      rintro e w3 ⟨he, F3, hd3, hc3, hf3⟩
      have HFR : Hid (∀ g, Fr g → w.heap.size ≤ g) := fun g hg => (HEk.out.lt g hg).1
      have HE3 : Hid (RefAt w.heap.size w3 E (run l (k + 1)) F3) := by unfold Hid; rw [HRN.out]; exact hd3
      have HB3 : Hid (Below w.heap.size w w3) := hc3.below HFR.out HBk.out HBk.out.size
      have HD3 : Hid (DocAt w3 D (run l k) Fd) := HDk.out.chg hc3 (fun g h1 h2 => HXk.out g h2 h1)
      have HX3 : Hid (∀ g, F3 g → ¬ Fd g) := fun g h1 h2 => by
        rcases hf3 g h1 with e9 | e9
        · exact HXk.out g e9 h2
        · have := HDk.out.lt g h2; omega
      obtain ⟨nw, hnw⟩ : ∃ nw, nw = isNew (run l k) ((xa, xb), xt, xp, xc, xs) := ⟨_, rfl⟩
      obtain ⟨q, hq⟩ : ∃ q, q = apE (run l k) ((xa, xb), xt, xp, xc, xs) := ⟨_, rfl⟩
      have HNW : Hid (nw = isNew (run l k) ((xa, xb), xt, xp, xc, xs)) := hnw
      have HQ : Hid (q = apE (run l k) ((xa, xb), xt, xp, xc, xs)) := hq
      rw [← hnw, ← hq] at he
      subst he
      have CD := apply_any D (run l k) Fd xa xb xt xp xc (.slice pv nv cv) xs w3 HD3.out (HDX.out.1.below HB3.out) (off_old HDX.out.1 HFk.out) HDX.out.2
      clear hd3 hc3 hf3 CR a0 a1 a2 a3 a4 a5 hnw hq
      obtain ⟨a0, a1, a2, a3, a4, a5⟩ := HSX.out w3 HB3.out
      go_wp2_with fail
      refine CD.mono ?_
      rintro e w4 ⟨he, _, F4, hd4, hc4, hf4⟩
      rw [← HNW.out, ← HQ.out] at he
      subst he
      have HD4 : Hid (DocAt w4 D (run l (k + 1)) F4) := by unfold Hid; rw [HRN.out]; exact hd4
      have HB4 : Hid (Below w.heap.size w w4) := hc4.below HFk.out HB3.out HB3.out.size
      have HF4 : Hid (∀ g, F4 g → w.heap.size ≤ g) := fun g hg => by
        rcases hf4 g hg with e9 | e9
        · exact HFk.out g e9
        · exact Nat.le_trans HB3.out.size e9
      have HE4 : Hid (RefAt w.heap.size w4 E (run l (k + 1)) F3) := HE3.out.chg hc4 HFk.out HX3.out
      have HX4 : Hid (∀ g, F3 g → ¬ F4 g) := fun g h1 h2 => by
        rcases hf4 g h2 with e9 | e9
        · exact HX3.out g h1 e9
        · have := (HE3.out.lt g h1).2; omega
      have CE := Kl.same_any q q w4 (Kl.ET.below HG.out HB4.out)
      rw [show (q == q) = true by simp] at CE
      clear hd4 hc4 hf4 CD a0 a1 a2 a3 a4 a5
      go_wp2_with fail
      refine CE.mono ?_
      rintro e w5 ⟨rfl, hb5⟩
      have HB5 : Hid (Below w4.heap.size w4 w5) := hb5
      have hnn : (nw != nw) = false := by simp
      clear hb5 CE HNW HQ
      go_wp2_with fail
      go_roundw
      case rel => exact ⟨k + 1, F4, F3, by omega, by omega, by go_num, HD4.out.below HB5.out, HE4.out.below HB5.out, HF4, HX4, bel HB4.out HB5.out⟩
      case measure => simp [intOf]; omega
    case false =>
      go_wp2_with fail
      go_ret3
      exact ⟨D, E, run l k, Fd, Fr, rfl, HDk.out, HEk.out, HFk.out, HXk.out, HBk.out⟩

end Ya
end Go.Proofs.YtnniggjeadlbgaaGreatDoor
