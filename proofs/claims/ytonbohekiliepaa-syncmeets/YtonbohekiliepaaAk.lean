/- The walk of SyncMeets. -/
import Derived.Test.YtonbohekiliepaaAf
import Derived.Test.YtonbohekiliepaaAb
import Derived.Test.YtonbohekiliepaaOn
import Derived.Test.YtonbohekiliepaaUe
import Derived.Test.YtonbohekiliepaaDg
import Derived.Deep.DeepCutAuto
import Derived.Deep.RegionHeld3
namespace Go.Proofs.Ytonbohekiliepaa
namespace Ak
set_option linter.unusedVariables false
set_option linter.unusedSimpArgs false
open Go.ChangeShapes Go.WideShapes Go.ChangeAt Go.RowKit Cm Ka Kb Na Om Oa Oz Oc Og Oi Hm Ia Ib Ic Idc Ie If Ig Ih Ii Ij Ik Il Im Um Aa Ac Ae Af
open La (bel bel_drew errV_zero errV_ne own_ge own_grow own_below Lies LeafsIn)
open Lj (BookAt BookNew)
open Iq (run run_next run_inv run_ord off_old)
open Ua (OpsG do_any DoPost)
open Ue (insert_any)

def hi : ByteArray := ⟨#[104, 105]⟩
def ix : List Ox := insL d0 1 0 hi
theorem ixE : insE d0 1 0 hi = 0 := by kernel_rfl
theorem ixR : runE d0 ix = 0 := by kernel_rfl
theorem ixS : ∀ x ∈ ix, x.2.2.1.size ≤ maxLen := fun x hx => by
  have := Um.small_ops (S := d0) (who := 1) (off := 0) (t := hi) inv_zero.book (insE_zero.1 ixE) x hx
  unfold maxLen; omega
def dz : Dq := runS d0 ix
theorem dzE : botE dz d0 = 0 := by kernel_rfl
theorem dzN : botN dz d0 = 2 := by kernel_rfl
theorem dzT : Lf.textR (b1S dz d0).book = ⟨#[104, 105]⟩ := by kernel_rfl
theorem new_shape {B : Nat} {w : World} {v : Value} {l : List Ox} (h : OpsNew B w v l) : ∃ p n c, v = .slice p n c := by
  obtain ⟨g, L, e, _⟩ := h; exact ⟨_, _, _, e⟩
theorem at_shape {w : World} {v : Value} {l : List Bm.Leaf} (h : BookAt w v l) : ∃ p n c, v = .slice p n c := by
  obtain ⟨p, c, e, _⟩ := h; exact ⟨_, _, _, e⟩
theorem mk_shape {w : World} {v : Value} {l : List Mk} (h : MksAt w v l) : ∃ p n c, v = .slice p n c := by
  obtain ⟨p, c, e, _⟩ := h; exact ⟨_, _, _, e⟩
/- the ops of a doc are of those that were applied -/
theorem run_of (l : List Ox) : ∀ (k : Nat), k ≤ l.length → ∀ o ∈ (run l k).ops, ∃ j, j < k ∧ l.getD j oz = o
  | 0, _, o, ho => by cases ho
  | k + 1, hk, o, ho => by
    rw [run_next (by omega)] at ho
    rcases Ab.ap_ops ho with e | e
    · obtain ⟨j, h1, h2⟩ := run_of l k (by omega) o e
      exact ⟨j, by omega, h2⟩
    · exact ⟨k, by omega, e.symm⟩

set_option maxRecDepth 100000 in
set_option maxHeartbeats 8000000 in
theorem walk (vl : Value) (l : List Ox) (vk : Value) (r : List Ox) (w : World) (hl : OpsAt w vl l) (hsz : ∀ x ∈ l, x.2.2.1.size ≤ maxLen) (hr : OpsAt w vk r) (hsr : ∀ x ∈ r, x.2.2.1.size ≤ maxLen) :
    Calls Try.prog 7 #[vl, vk] w fun e w' => e = .returned (.bool true) ∧ Below w.heap.size w w' := by
  obtain ⟨ql, cl, rfl, hlin, _⟩ := hl
  obtain ⟨qr, cr, rfl, hrin, _⟩ := hr
  obtain ⟨n, hn⟩ : ∃ n, n = l.length := ⟨_, rfl⟩
  obtain ⟨m, hm⟩ : ∃ m, m = r.length := ⟨_, rfl⟩
  rw [← hn, ← hm]
  have HN : Hid (l.length = n) := hn.symm
  have HM : Hid (r.length = m) := hm.symm
  have HLI : Hid (OpsIn w ql l) := hlin
  have HRI : Hid (OpsIn w qr r) := hrin
  have HSZ : Hid (∀ x ∈ l, x.2.2.1.size ≤ maxLen) := hsz
  have HSR : Hid (∀ x ∈ r, x.2.2.1.size ≤ maxLen) := hsr
  clear hlin hrin hsz hsr hn hm
  go_enter Try.func7, Try.ntmps7
  go_wp2_with fail
  refine (new_any w).mono ?_
  rintro e w1 ⟨D1, F1, rfl, hd1, hf1, hb1⟩
  have HD1 : Hid (DocAt w1 D1 d0 F1) := hd1
  have HB1 : Hid (Below w.heap.size w w1) := hb1
  have HF1 : Hid (∀ g, F1 g → w.heap.size ≤ g ∧ g < w1.heap.size) := fun g hg => ⟨hf1 g hg, hd1.lt g hg⟩
  have CI := insert_any D1 d0 F1 1 0 hi w1 hd1 (by unfold maxLen; decide)
  clear hd1 hf1 hb1
  go_wp2_with fail
  refine CI.mono ?_
  rintro e w2 ⟨v2, he, ho2, _, hb2⟩
  rw [ixE, errV_zero] at he
  subst he
  obtain ⟨p2, n2, c2, rfl⟩ := new_shape (ho2 ixE)
  have HO2 : Hid (OpsG (fun g => w1.heap.size ≤ g ∧ g < w2.heap.size) w2 (.slice p2 n2 c2) ix) := OpsG.new (ho2 ixE)
  have HB2 : Hid (Below w.heap.size w w2) := bel HB1.out hb2
  have CD : Calls Try.prog 17 #[.pointer (some ⟨D1, 0, none⟩), .slice p2 n2 c2] w2 (DoPost w2 D1 d0 F1 ix) := do_any D1 d0 F1 _ _ ix w2 (HD1.out.below hb2) HO2.out (fun g hg => ⟨hg.2, fun e => by have := (HF1.out g e).2; have := hg.1; omega⟩) ixS
  clear CI ho2 hb2 HD1
  go_wp2_with fail
  refine CD.mono ?_
  rintro e w3 ⟨he, F3, hd3, hc3, hf3⟩
  rw [ixR, errV_zero] at he
  subst he
  have HD3 : Hid (DocAt w3 D1 dz F3) := hd3
  have HB3 : Hid (Below w.heap.size w w3) := hc3.below (fun g hg => (HF1.out g hg).1) HB2.out HB2.out.size
  have HF3 : Hid (∀ g, F3 g → w.heap.size ≤ g) := fun g hg => by
    rcases hf3 g hg with e | e
    · exact (HF1.out g e).1
    · exact Nat.le_trans HB2.out.size e
  clear CD hd3 hc3 hf3 HO2 HB2 HF1 HB1
  go_wp2_with fail
  refine (new_any w3).mono ?_
  rintro e w4 ⟨D2, F4, rfl, hd4, hf4, hb4⟩
  have HD4 : Hid (DocAt w4 D1 dz F3) := HD3.out.below hb4
  have HB4 : Hid (Below w.heap.size w w4) := bel HB3.out hb4
  have HF4 : Hid (∀ g, F4 g → w.heap.size ≤ g) := fun g hg => Nat.le_trans HB3.out.size (hf4 g hg)
  have CB := both_any D1 D2 dz d0 F3 F4 w4 HD4.out hd4 (fun g e1 e2 => by have := HD3.out.lt g e1; have := hf4 g e2; omega)
  clear hd4 hf4 hb4 HD3 HB3
  go_wp2_with fail
  refine CB.mono ?_
  rintro e w5 ⟨he, G1, G2, hd5, hd5b, hc5, _⟩
  rw [dzE, dzN, errV_zero] at he
  obtain ⟨mm, hmm⟩ : ∃ mm, mm = botM dz d0 := ⟨_, rfl⟩
  rw [← hmm] at he
  subst he
  have HB5 : Hid (Below w.heap.size w w5) := hc5.below (fun g hg => by rcases hg with e | e; exact HF3.out g e; exact HF4.out g e) HB4.out HB4.out.size
  have CT := text_get D2 (b1S dz d0) G2 w5 hd5b
  rw [dzT] at CT
  clear CB hd5 hd5b hc5 hmm HD4 HB4 HF3 HF4
  go_wp2_with fail
  refine CT.mono ?_
  rintro e w6 ⟨rfl, hb6⟩
  have HB6 : Hid (Below w.heap.size w w6) := bel HB5.out hb6
  clear CT hb6 HB5
  go_wp2_with fail
  refine (new_any w6).mono ?_
  rintro e w7 ⟨A, F7, rfl, hd7, hf7, hb7⟩
  have HD7 : Hid (DocAt w7 A d0 F7) := hd7
  have HB7 : Hid (Below w.heap.size w w7) := bel HB6.out hb7
  have HF7 : Hid (∀ g, F7 g → w.heap.size ≤ g ∧ g < w7.heap.size) := fun g hg => ⟨Nat.le_trans HB6.out.size (hf7 g hg), hd7.lt g hg⟩
  clear hd7 hf7 hb7 HB6
  go_wp2_with fail
  refine (new_any w7).mono ?_
  rintro e w8 ⟨B, F8, rfl, hd8, hf8, hb8⟩
  have HDA : Hid (DocAt w8 A (run l 0) F7) := HD7.out.below hb8
  have HDB : Hid (DocAt w8 B (run r 0) F8) := hd8
  have HB8 : Hid (Below w.heap.size w w8) := bel HB7.out hb8
  have HFA : Hid (∀ g, F7 g → w.heap.size ≤ g) := fun g hg => (HF7.out g hg).1
  have HFB : Hid (∀ g, F8 g → w.heap.size ≤ g) := fun g hg => Nat.le_trans HB7.out.size (hf8 g hg)
  have HAB : Hid (∀ g, F7 g → ¬ F8 g) := fun g h1 h2 => by have := (HF7.out g h1).2; have := hf8 g h2; omega
  clear hd8 hf8 hb8 HB7 HF7 HD7
  go_wp2_with fail
  go_loopw [14] (fun vi wr => ∃ (k : Nat) (Fa : Nat → Prop), k ≤ n ∧ k ≤ 60 ∧ vi = .int .i64 k ∧ Hid (DocAt wr A (run l k) Fa) ∧ Hid (DocAt wr B (run r 0) F8) ∧ Hid (∀ g, Fa g → w.heap.size ≤ g) ∧ Hid (∀ g, Fa g → ¬ F8 g) ∧ Hid (Below w.heap.size w wr)) (fun vi _ => 60 - (intOf vi).toNat)
  case atStart => exact ⟨0, F7, by omega, by omega, rfl, HDA, HDB, HFA, HAB, HB8⟩
  case round =>
    clear HDA HDB HFA HAB HB8
    obtain ⟨k, Fa, hk, hk60, rfl, HDA, HDB, HFA, HAB, HB⟩ := hrel
    go_upto_region 12 with fail
    go_cut [72] from 65 to 80 (fun s9 wx => ∃ t : Bool, s9 = .bool t ∧ Hid (t = decide (k < n ∧ k < 60)) ∧ wr = wx)
    case first =>
      by_cases h1 : k < n
      · have h1z : (k : Int) < n := by omega
        by_cases h2 : k < 60
        · have h2z : (k : Int) < 60 := by omega
          go_wp2_with fail
          go_meet
          case rel => exact ⟨true, rfl, (decide_eq_true ⟨h1, h2⟩).symm, rfl⟩
        · have h2z : ¬ (k : Int) < 60 := by omega
          have H2 : Hid (decide (k < n ∧ k < 60) = false) := decide_eq_false (fun h => h2 h.2)
          go_wp2_with fail
          go_meet
          case rel => exact ⟨false, by simp [h2], H2.out.symm, rfl⟩
      · have h1z : ¬ (k : Int) < n := by omega
        have H2 : Hid (decide (k < n ∧ k < 60) = false) := decide_eq_false (fun h => h1 h.1)
        go_wp2_with fail
        go_meet
        case rel => exact ⟨false, rfl, H2.out.symm, rfl⟩
    case rest =>
    obtain ⟨tt, rfl, HTT, rfl⟩ := hcut
    cases tt
    case true =>
      obtain ⟨hlt1, hlt2⟩ := of_decide_eq_true HTT.out.symm
      have hltz : (k : Int) < n := by omega
      have hkl : k < l.length := by rw [HN.out]; exact hlt1
      obtain ⟨bo, oo, rfl, hc⟩ := HLI.out.some (by intro e; rw [e] at hkl; simp at hkl)
      have ha0 := hc k hkl
      have hxm := HSZ.out _ (getO_mem hkl)
      have HRN : Hid (run l (k + 1) = apS (run l k) (l.getD k oz)) := run_next hkl
      obtain ⟨x, hx⟩ : ∃ x, x = l.getD k oz := ⟨_, rfl⟩
      rw [← hx] at ha0 hxm HRN
      obtain ⟨⟨xa, xb⟩, xt, xp, xc, xs⟩ := x
      obtain ⟨vx, ⟨g0, g1, g2, g3, g4, g5⟩, hdx0⟩ := ha0
      simp only at g0 g1 g2 g3 g4 g5 hdx0 hxm
      obtain ⟨pv, nv, cv, rfl⟩ : ∃ pv nv cv, vx = .slice pv nv cv := by obtain ⟨_, _, e9, _⟩ := hdx0; exact ⟨_, _, _, e9⟩
      have C := apply_any A (run l k) Fa xa xb xt xp xc (.slice pv nv cv) xs wr HDA.out (hdx0.below HB.out) (off_old hdx0 HFA.out) hxm
      have a0 := keep_cell HB.out g0
      have a1 := keep_cell HB.out g1
      have a2 := keep_cell HB.out g2
      have a3 := keep_cell HB.out g3
      have a4 := keep_cell HB.out g4
      have a5 := keep_cell HB.out g5
      clear hc hx hkl hxm hdx0 g0 g1 g2 g3 g4 g5
      go_wp2_with fail
      refine C.mono ?_
      rintro e w9 ⟨he, _, F9, hd9, hc9, hf9⟩
      have HD9 : Hid (DocAt w9 A (run l (k + 1)) F9) := by unfold Hid; rw [HRN.out]; exact hd9
      have HB9 : Hid (Below w.heap.size w w9) := hc9.below HFA.out HB.out HB.out.size
      have HF9 : Hid (∀ g, F9 g → w.heap.size ≤ g) := fun g hg => by
        rcases hf9 g hg with e | e
        · exact HFA.out g e
        · exact Nat.le_trans HB.out.size e
      have HO9 := HDB.out.chg hc9 (fun g h1 h2 => HAB.out g h2 h1)
      have HX9 : Hid (∀ g, F9 g → ¬ F8 g) := fun g h1 h2 => by
        rcases hf9 g h1 with e | e
        · exact HAB.out g e h2
        · have := HDB.out.lt g h2; omega
      obtain ⟨ev, hev⟩ : ∃ ev, ev = Value.tuple #[.bool (isNew (run l k) ((xa, xb), xt, xp, xc, xs)), errV (apE (run l k) ((xa, xb), xt, xp, xc, xs))] := ⟨_, rfl⟩
      rw [← hev] at he
      subst he
      clear hd9 hc9 hf9 C a0 a1 a2 a3 a4 a5 hev
      go_wp2_with fail
      go_roundw
      case rel => exact ⟨k + 1, F9, by omega, by omega, by go_num, HD9, HO9, HF9, HX9, HB9⟩
      case measure => simp [intOf]; omega
    case false =>
      have HKN : Hid (k = min n 60) := by
        have h9 := of_decide_eq_false HTT.out.symm
        unfold Hid; omega
      obtain ⟨SA, hSA⟩ : ∃ SA, SA = run l k := ⟨_, rfl⟩
      have HSA : Hid (SA = run l k) := hSA
      rw [← hSA] at HDA
      clear hSA HTT
      go_wp2_with fail
      go_loopw [15] (fun vi wr => ∃ (j : Nat) (Fb : Nat → Prop), j ≤ m ∧ j ≤ 60 ∧ vi = .int .i64 j ∧ Hid (DocAt wr B (run r j) Fb) ∧ Hid (DocAt wr A SA Fa) ∧ Hid (∀ g, Fb g → w.heap.size ≤ g) ∧ Hid (∀ g, Fb g → ¬ Fa g) ∧ Hid (Below w.heap.size w wr)) (fun vi _ => 60 - (intOf vi).toNat)
      case atStart => exact ⟨0, F8, by omega, by omega, rfl, HDB, HDA, HFB, fun g h1 h2 => HAB.out g h2 h1, HB⟩
      case round =>
        clear HDA HDB HFB HAB HB
        obtain ⟨j, Fb, hj, hj60, rfl, HDB, HDA, HFB, HAB, HB⟩ := hrel
        go_upto_region 16 with fail
        go_cut [88] from 81 to 96 (fun s9 wx => ∃ t : Bool, s9 = .bool t ∧ Hid (t = decide (j < m ∧ j < 60)) ∧ wr = wx)
        case first =>
          by_cases h1 : j < m
          · have h1z : (j : Int) < m := by omega
            by_cases h2 : j < 60
            · have h2z : (j : Int) < 60 := by omega
              go_wp2_with fail
              go_meet
              case rel => exact ⟨true, rfl, (decide_eq_true ⟨h1, h2⟩).symm, rfl⟩
            · have h2z : ¬ (j : Int) < 60 := by omega
              have H2 : Hid (decide (j < m ∧ j < 60) = false) := decide_eq_false (fun h => h2 h.2)
              go_wp2_with fail
              go_meet
              case rel => exact ⟨false, by simp [h2], H2.out.symm, rfl⟩
          · have h1z : ¬ (j : Int) < m := by omega
            have H2 : Hid (decide (j < m ∧ j < 60) = false) := decide_eq_false (fun h => h1 h.1)
            go_wp2_with fail
            go_meet
            case rel => exact ⟨false, rfl, H2.out.symm, rfl⟩
        case rest =>
        obtain ⟨tt, rfl, HTT, rfl⟩ := hcut
        cases tt
        case true =>
          obtain ⟨hlt1, hlt2⟩ := of_decide_eq_true HTT.out.symm
          have hltz : (j : Int) < m := by omega
          have hkl : j < r.length := by rw [HM.out]; exact hlt1
          obtain ⟨bo, oo, rfl, hc⟩ := HRI.out.some (by intro e; rw [e] at hkl; simp at hkl)
          have ha0 := hc j hkl
          have hxm := HSR.out _ (getO_mem hkl)
          have HRN : Hid (run r (j + 1) = apS (run r j) (r.getD j oz)) := run_next hkl
          obtain ⟨x, hx⟩ : ∃ x, x = r.getD j oz := ⟨_, rfl⟩
          rw [← hx] at ha0 hxm HRN
          obtain ⟨⟨xa, xb⟩, xt, xp, xc, xs⟩ := x
          obtain ⟨vx, ⟨g0, g1, g2, g3, g4, g5⟩, hdx0⟩ := ha0
          simp only at g0 g1 g2 g3 g4 g5 hdx0 hxm
          obtain ⟨pv, nv, cv, rfl⟩ : ∃ pv nv cv, vx = .slice pv nv cv := by obtain ⟨_, _, e9, _⟩ := hdx0; exact ⟨_, _, _, e9⟩
          have C := apply_any B (run r j) Fb xa xb xt xp xc (.slice pv nv cv) xs wr HDB.out (hdx0.below HB.out) (off_old hdx0 HFB.out) hxm
          have a0 := keep_cell HB.out g0
          have a1 := keep_cell HB.out g1
          have a2 := keep_cell HB.out g2
          have a3 := keep_cell HB.out g3
          have a4 := keep_cell HB.out g4
          have a5 := keep_cell HB.out g5
          clear hc hx hkl hxm hdx0 g0 g1 g2 g3 g4 g5
          go_wp2_with fail
          refine C.mono ?_
          rintro e w9 ⟨he, _, F9, hd9, hc9, hf9⟩
          have HD9 : Hid (DocAt w9 B (run r (j + 1)) F9) := by unfold Hid; rw [HRN.out]; exact hd9
          have HB9 : Hid (Below w.heap.size w w9) := hc9.below HFB.out HB.out HB.out.size
          have HF9 : Hid (∀ g, F9 g → w.heap.size ≤ g) := fun g hg => by
            rcases hf9 g hg with e | e
            · exact HFB.out g e
            · exact Nat.le_trans HB.out.size e
          have HO9 := HDA.out.chg hc9 (fun g h1 h2 => HAB.out g h2 h1)
          have HX9 : Hid (∀ g, F9 g → ¬ Fa g) := fun g h1 h2 => by
            rcases hf9 g h1 with e | e
            · exact HAB.out g e h2
            · have := HDA.out.lt g h2; omega
          obtain ⟨ev, hev⟩ : ∃ ev, ev = Value.tuple #[.bool (isNew (run r j) ((xa, xb), xt, xp, xc, xs)), errV (apE (run r j) ((xa, xb), xt, xp, xc, xs))] := ⟨_, rfl⟩
          rw [← hev] at he
          subst he
          clear hd9 hc9 hf9 C a0 a1 a2 a3 a4 a5 hev
          go_wp2_with fail
          go_roundw
          case rel => exact ⟨j + 1, F9, by omega, by omega, by go_num, HD9, HO9, HF9, HX9, HB9⟩
          case measure => simp [intOf]; omega
        case false =>
          have HJM : Hid (j = min m 60) := by
            have h9 := of_decide_eq_false HTT.out.symm
            unfold Hid; omega
          obtain ⟨SB, hSB⟩ : ∃ SB, SB = run r j := ⟨_, rfl⟩
          have HSB : Hid (SB = run r j) := hSB
          rw [← hSB] at HDB
          clear hSB HTT
          obtain ⟨w9, rfl⟩ : ∃ w9, w9 = wr := ⟨_, rfl⟩
          go_wp2_with fail
          go_loopw [16] (fun vi wr => ∃ (i : Nat), i ≤ m ∧ i ≤ 60 ∧ vi = .int .i64 i ∧ Hid (∀ a, a < i → ∀ b, b < n → b < 60 → (r.getD a oz).1 = (l.getD b oz).1 → r.getD a oz = l.getD b oz) ∧ Hid (Below w9.heap.size w9 wr)) (fun vi _ => 60 - (intOf vi).toNat)
          case atStart => exact ⟨0, by omega, by omega, rfl, (fun a ha => absurd ha (by omega)), Below.refl _ _⟩
          case round =>
            obtain ⟨i, hi1, hi60, rfl, HEQ, HB9⟩ := hrel
            go_upto_region 20 with fail
            go_cut [104] from 97 to 140 (fun s9 wx => ∃ t : Bool, s9 = .bool t ∧ Hid (t = decide (i < m ∧ i < 60)) ∧ wr = wx)
            case first =>
              by_cases h1 : i < m
              · have h1z : (i : Int) < m := by omega
                by_cases h2 : i < 60
                · have h2z : (i : Int) < 60 := by omega
                  go_wp2_with fail
                  go_meet
                  case rel => exact ⟨true, rfl, (decide_eq_true ⟨h1, h2⟩).symm, rfl⟩
                · have h2z : ¬ (i : Int) < 60 := by omega
                  have H2 : Hid (decide (i < m ∧ i < 60) = false) := decide_eq_false (fun h => h2 h.2)
                  go_wp2_with fail
                  go_meet
                  case rel => exact ⟨false, by simp [h2], H2.out.symm, rfl⟩
              · have h1z : ¬ (i : Int) < m := by omega
                have H2 : Hid (decide (i < m ∧ i < 60) = false) := decide_eq_false (fun h => h1 h.1)
                go_wp2_with fail
                go_meet
                case rel => exact ⟨false, rfl, H2.out.symm, rfl⟩
            case rest =>
            obtain ⟨tt, rfl, HTT, rfl⟩ := hcut
            cases tt
            case true =>
              obtain ⟨hlt1, hlt2⟩ := of_decide_eq_true HTT.out.symm
              have hltz : (i : Int) < m := by omega
              have hkl : i < r.length := by rw [HM.out]; exact hlt1
              obtain ⟨b1, o1, rfl, hc⟩ := HRI.out.some (by intro e; rw [e] at hkl; simp at hkl)
              have ha0 := hc i hkl
              obtain ⟨x, hx⟩ : ∃ x, x = r.getD i oz := ⟨_, rfl⟩
              rw [← hx] at ha0
              have HX : Hid (x = r.getD i oz) := hx
              obtain ⟨⟨xa, xb⟩, xt, xp, xc, xs⟩ := x
              obtain ⟨vx, ⟨g0, g1, g2, g3, g4, g5⟩, hdx0⟩ := ha0
              simp only at g0 g1 g2 g3 g4 g5 hdx0
              obtain ⟨px, nx, cx, rfl⟩ : ∃ pv nv cv, vx = .slice pv nv cv := by obtain ⟨_, _, e9, _⟩ := hdx0; exact ⟨_, _, _, e9⟩
              have HSX : Hid (∀ W, Below w.heap.size w W → W.cell? ⟨b1, o1 + i * 6, none⟩ = some (.int .i64 xa) ∧ W.cell? ⟨b1, o1 + i * 6 + 1, none⟩ = some (.int .i64 xb) ∧ W.cell? ⟨b1, o1 + i * 6 + 2, none⟩ = some (.int .i64 xt) ∧ W.cell? ⟨b1, o1 + i * 6 + 3, none⟩ = some (.string xp) ∧ W.cell? ⟨b1, o1 + i * 6 + 4, none⟩ = some (.int .i64 xc) ∧ W.cell? ⟨b1, o1 + i * 6 + 5, none⟩ = some (.slice px nx cx)) := fun W hb => ⟨keep_cell hb g0, keep_cell hb g1, keep_cell hb g2, keep_cell hb g3, keep_cell hb g4, keep_cell hb g5⟩
              have HDX : Hid (DtsAt w (.slice px nx cx) xs) := hdx0
              clear hc hx hkl hdx0 g0 g1 g2 g3 g4 g5 HTT
              go_wp2_with fail
              go_loopw [17] (fun vi wr => ∃ (q : Nat), q ≤ n ∧ q ≤ 60 ∧ vi = .int .i64 q ∧ Hid (∀ b, b < q → (r.getD i oz).1 = (l.getD b oz).1 → r.getD i oz = l.getD b oz) ∧ Hid (Below w9.heap.size w9 wr)) (fun vi _ => 60 - (intOf vi).toNat)
              case atStart => exact ⟨0, by omega, by omega, rfl, (fun b hb => absurd hb (by omega)), HB9⟩
              case round =>
                clear HB9
                obtain ⟨q, hq1, hq60, rfl, HEJ, HB9⟩ := hrel
                go_upto_region 23 with fail
                go_cut [114] from 107 to 140 (fun s9 wx => ∃ t : Bool, s9 = .bool t ∧ Hid (t = decide (q < n ∧ q < 60)) ∧ wr = wx)
                case first =>
                  by_cases h1 : q < n
                  · have h1z : (q : Int) < n := by omega
                    by_cases h2 : q < 60
                    · have h2z : (q : Int) < 60 := by omega
                      go_wp2_with fail
                      go_meet
                      case rel => exact ⟨true, rfl, (decide_eq_true ⟨h1, h2⟩).symm, rfl⟩
                    · have h2z : ¬ (q : Int) < 60 := by omega
                      have H2 : Hid (decide (q < n ∧ q < 60) = false) := decide_eq_false (fun h => h2 h.2)
                      go_wp2_with fail
                      go_meet
                      case rel => exact ⟨false, by simp [h2], H2.out.symm, rfl⟩
                  · have h1z : ¬ (q : Int) < n := by omega
                    have H2 : Hid (decide (q < n ∧ q < 60) = false) := decide_eq_false (fun h => h1 h.1)
                    go_wp2_with fail
                    go_meet
                    case rel => exact ⟨false, rfl, H2.out.symm, rfl⟩
                case rest =>
                obtain ⟨tt, rfl, HTT, rfl⟩ := hcut
                cases tt
                case true =>
                  obtain ⟨hlt3, hlt4⟩ := of_decide_eq_true HTT.out.symm
                  have hltz2 : (q : Int) < n := by omega
                  have hkl : q < l.length := by rw [HN.out]; exact hlt3
                  obtain ⟨b2, o2, rfl, hc⟩ := HLI.out.some (by intro e; rw [e] at hkl; simp at hkl)
                  have ha0 := hc q hkl
                  obtain ⟨y, hy⟩ : ∃ y, y = l.getD q oz := ⟨_, rfl⟩
                  rw [← hy] at ha0
                  have HY : Hid (y = l.getD q oz) := hy
                  obtain ⟨⟨ya, yb⟩, yt, yp, yc, ys⟩ := y
                  obtain ⟨vy, ⟨g0, g1, g2, g3, g4, g5⟩, hdy0⟩ := ha0
                  simp only at g0 g1 g2 g3 g4 g5 hdy0
                  obtain ⟨py, ny, cy, rfl⟩ : ∃ pv nv cv, vy = .slice pv nv cv := by obtain ⟨_, _, e9, _⟩ := hdy0; exact ⟨_, _, _, e9⟩
                  have HSY : Hid (∀ W, Below w.heap.size w W → W.cell? ⟨b2, o2 + q * 6, none⟩ = some (.int .i64 ya) ∧ W.cell? ⟨b2, o2 + q * 6 + 1, none⟩ = some (.int .i64 yb) ∧ W.cell? ⟨b2, o2 + q * 6 + 2, none⟩ = some (.int .i64 yt) ∧ W.cell? ⟨b2, o2 + q * 6 + 3, none⟩ = some (.string yp) ∧ W.cell? ⟨b2, o2 + q * 6 + 4, none⟩ = some (.int .i64 yc) ∧ W.cell? ⟨b2, o2 + q * 6 + 5, none⟩ = some (.slice py ny cy)) := fun W hb => ⟨keep_cell hb g0, keep_cell hb g1, keep_cell hb g2, keep_cell hb g3, keep_cell hb g4, keep_cell hb g5⟩
                  have HBW : Hid (Below w.heap.size w wr) := bel HB.out HB9.out
                  have CS : Hid (∀ W, Below w.heap.size w W → Calls Try.prog 24 #[.agg #[.int .i64 xa, .int .i64 xb, .int .i64 xt, .string xp, .int .i64 xc, .slice px nx cx], .agg #[.int .i64 ya, .int .i64 yb, .int .i64 yt, .string yp, .int .i64 yc, .slice py ny cy]] W fun e w' => e = .returned (.bool (decide ((((xa, xb), xt, xp, xc, xs) : Ox) = ((ya, yb), yt, yp, yc, ys)))) ∧ Below W.heap.size W w') := fun W hW => On.same_all xa xb xt xp xc _ xs ya yb yt yp yc _ ys W (HDX.out.below hW) (hdy0.below hW)
                  obtain ⟨x0, x1, x2, x3, x4, x5⟩ := HSX.out wr HBW.out
                  obtain ⟨y0, y1, y2, y3, y4, y5⟩ := HSY.out wr HBW.out
                  obtain ⟨sb, hsb⟩ : ∃ sb, sb = decide ((((xa, xb), xt, xp, xc, xs) : Ox) = ((ya, yb), yt, yp, yc, ys)) := ⟨_, rfl⟩
                  rw [← hsb] at CS
                  have HSBB : Hid (sb = decide ((((xa, xb), xt, xp, xc, xs) : Ox) = ((ya, yb), yt, yp, yc, ys))) := hsb
                  have hqd : ∀ w, (binOp .eql 27 (.agg #[.int .i64 xa, .int .i64 xb]) (.agg #[.int .i64 ya, .int .i64 yb])).run Try.prog w = .ok (.bool (decide (((xa, xb) : Dt) = (ya, yb)))) w := fun w => Ol.eql_dot xa ya xb yb w
                  obtain ⟨db, hdb⟩ : ∃ db, db = decide (((xa, xb) : Dt) = (ya, yb)) := ⟨_, rfl⟩
                  rw [← hdb] at hqd
                  have HDB2 : Hid (db = decide (((xa, xb) : Dt) = (ya, yb))) := hdb
                  have hgd : Try.prog.eqGuardType Try.prog.depth 27 = false := by kernel_rfl
                  clear hc hy hkl hdy0 g0 g1 g2 g3 g4 g5 HTT hsb hdb
                  go_wp2_with fail
                  go_region_held3 (fun W => W.cell? ⟨b1, o1 + i * 6, none⟩ = some (.int .i64 xa) ∧ W.cell? ⟨b1, o1 + i * 6 + 1, none⟩ = some (.int .i64 xb) ∧ W.cell? ⟨b1, o1 + i * 6 + 2, none⟩ = some (.int .i64 xt) ∧ W.cell? ⟨b1, o1 + i * 6 + 3, none⟩ = some (.string xp) ∧ W.cell? ⟨b1, o1 + i * 6 + 4, none⟩ = some (.int .i64 xc) ∧ W.cell? ⟨b1, o1 + i * 6 + 5, none⟩ = some (.slice px nx cx) ∧ W.cell? ⟨b2, o2 + q * 6, none⟩ = some (.int .i64 ya) ∧ W.cell? ⟨b2, o2 + q * 6 + 1, none⟩ = some (.int .i64 yb) ∧ W.cell? ⟨b2, o2 + q * 6 + 2, none⟩ = some (.int .i64 yt) ∧ W.cell? ⟨b2, o2 + q * 6 + 3, none⟩ = some (.string yp) ∧ W.cell? ⟨b2, o2 + q * 6 + 4, none⟩ = some (.int .i64 yc) ∧ W.cell? ⟨b2, o2 + q * 6 + 5, none⟩ = some (.slice py ny cy)) (first | (go_keep; done) | (refine ⟨keep_cell hb7 ?_, keep_cell hb7 ?_, keep_cell hb7 ?_, keep_cell hb7 ?_, keep_cell hb7 ?_, keep_cell hb7 ?_, keep_cell hb7 ?_, keep_cell hb7 ?_, keep_cell hb7 ?_, keep_cell hb7 ?_, keep_cell hb7 ?_, keep_cell hb7 ?_⟩ <;> (go_split_ands; assumption))) (first
                    | (go_at_call 24; refine (CS.out _ HBW.out.drew).mono ?_; rintro e w7 ⟨rfl, hb7⟩; have HB7 : Hid (Below wr.heap.size wr w7) := bel (Below.refl _ wr).drew hb7))
                  all_goals
                    clear x0 x1 x2 x3 x4 x5 y0 y1 y2 y3 y4 y5
                    have HBW7 : Hid (Below w.heap.size w w7) := bel HBW.out HB7.out
                    obtain ⟨x0, x1, x2, x3, x4, x5⟩ := HSX.out w7 HBW7.out
                    obtain ⟨y0, y1, y2, y3, y4, y5⟩ := HSY.out w7 HBW7.out
                    have HB97 : Hid (Below w9.heap.size w9 w7) := bel HB9.out HB7.out
                    cases db
                    · have HE2 : Hid (∀ b, b < q + 1 → (r.getD i oz).1 = (l.getD b oz).1 → r.getD i oz = l.getD b oz) := fun b hb e => by
                        rcases Nat.lt_succ_iff_lt_or_eq.1 hb with h | rfl
                        · exact HEJ.out b h e
                        · rw [← HX.out, ← HY.out] at e
                          exact absurd e (of_decide_eq_false HDB2.out.symm)
                      go_wp2_with fail
                      go_quiet (fail)
                      generalize hwq : World.drewN _ _ = wq
                      have HBq : Hid (Below w9.heap.size w9 wq) := by rw [← hwq]; exact bel_drew HB97.out _
                      clear hwq x0 x1 x2 x3 x4 x5 y0 y1 y2 y3 y4 y5
                      go_wp2_with fail
                      go_roundw
                      case rel => exact ⟨q + 1, by omega, by omega, by go_num, HE2, HBq⟩
                      case measure => simp [intOf]; omega
                    · cases sb
                      · go_wp2_with fail
                        go_quiet (fail)
                        generalize hwq : World.drewN _ _ = wq
                        have HBq : Hid (Below w9.heap.size w9 wq) := by rw [← hwq]; exact bel_drew HB97.out _
                        clear hwq x0 x1 x2 x3 x4 x5 y0 y1 y2 y3 y4 y5
                        go_wp2_with fail
                        go_ret
                        exact ⟨rfl, bel HB.out HBq.out⟩
                      · have HE2 : Hid (∀ b, b < q + 1 → (r.getD i oz).1 = (l.getD b oz).1 → r.getD i oz = l.getD b oz) := fun b hb e => by
                          rcases Nat.lt_succ_iff_lt_or_eq.1 hb with h | rfl
                          · exact HEJ.out b h e
                          · rw [← HX.out, ← HY.out]
                            exact of_decide_eq_true HSBB.out.symm
                        go_wp2_with fail
                        go_quiet (fail)
                        generalize hwq : World.drewN _ _ = wq
                        have HBq : Hid (Below w9.heap.size w9 wq) := by rw [← hwq]; exact bel_drew HB97.out _
                        clear hwq x0 x1 x2 x3 x4 x5 y0 y1 y2 y3 y4 y5
                        go_wp2_with fail
                        go_roundw
                        case rel => exact ⟨q + 1, by omega, by omega, by go_num, HE2, HBq⟩
                        case measure => simp [intOf]; omega
                case false =>
                  have HQN : Hid (¬ (q < n ∧ q < 60)) := of_decide_eq_false HTT.out.symm
                  have HE3 : Hid (∀ a, a < i + 1 → ∀ b, b < n → b < 60 → (r.getD a oz).1 = (l.getD b oz).1 → r.getD a oz = l.getD b oz) := fun a ha b hb hb2 e => by
                    rcases Nat.lt_succ_iff_lt_or_eq.1 ha with h | rfl
                    · exact HEQ.out a h b hb hb2 e
                    · exact HEJ.out b (by have := HQN.out; omega) e
                  clear HTT
                  go_wp2_with fail
                  go_roundw
                  case rel => exact ⟨i + 1, by omega, by omega, by go_num, HE3, HB9⟩
                  case measure => simp [intOf]; omega
            case false =>
              have HIM : Hid (¬ (i < m ∧ i < 60)) := of_decide_eq_false HTT.out.symm
              have HDA9 : Hid (DocAt wr A SA Fa) := HDA.out.below HB9.out
              have HDB9 : Hid (DocAt wr B SB Fb) := HDB.out.below HB9.out
              have HB10 : Hid (Below w.heap.size w wr) := bel HB.out HB9.out
              have HCM : Hid (∀ a ∈ SA.ops, ∀ b ∈ SB.ops, a.1 = b.1 → a = b) := fun a ha b hb e => by
                rw [HSA.out] at ha
                rw [HSB.out] at hb
                have hkl := HN.out
                have hjl := HM.out
                obtain ⟨p, p1, p2⟩ := run_of l k (by omega) a ha
                obtain ⟨s, s1, s2⟩ := run_of r j (by omega) b hb
                have h9 := HEQ.out s (by have := HIM.out; have := HJM.out; omega) p (by have := HKN.out; omega) (by have := HKN.out; omega)
                rw [p2, s2] at h9
                exact (h9 e.symm).symm
              have HIA : Hid (Inv SA ∧ Hm.Ord SA) := by unfold Hid; rw [HSA.out]; exact ⟨run_inv l k, run_ord l k⟩
              have HIB : Hid (Inv SB ∧ Hm.Ord SB) := by unfold Hid; rw [HSB.out]; exact ⟨run_inv r j, run_ord r j⟩
              have CB := both_any A B SA SB Fa Fb wr HDA9.out HDB9.out (fun g e1 e2 => HAB.out g e2 e1)
              clear HTT HEQ HIM HDA HDB HSA HSB HKN HJM HLI HRI HSZ HSR HN HM HB
              by_cases hz : botE SA SB = 0
              · have HMT := Ab.met HIA.out.1 HIA.out.2 HIB.out.1 HIB.out.2 HCM.out hz
                go_wp2_with fail
                refine CB.mono ?_
                rintro e w11 ⟨he, G1, G2, hd1, hd2, hc, hg1, hg2, hgx⟩
                obtain ⟨nn, hnn⟩ : ∃ nn, nn = botN SA SB := ⟨_, rfl⟩
                obtain ⟨mm2, hmm2⟩ : ∃ mm2, mm2 = botM SA SB := ⟨_, rfl⟩
                rw [hz, errV_zero, ← hnn, ← hmm2] at he
                subst he
                obtain ⟨TA, hTA⟩ : ∃ T, T = botA SA SB := ⟨_, rfl⟩
                obtain ⟨TB, hTB⟩ : ∃ T, T = b1S SA SB := ⟨_, rfl⟩
                rw [← hTA] at hd1 HMT
                rw [← hTB] at hd2 HMT
                have HT : Hid (Ab.Met TA TB) := HMT
                have HB11 : Hid (Below w.heap.size w w11) := hc.below (fun g hg => by rcases hg with e | e; exact HFA.out g e; exact HFB.out g e) HB10.out HB10.out.size
                have HDA1 : Hid (DocAt w11 A TA G1) := hd1
                have HDB1 : Hid (DocAt w11 B TB G2) := hd2
                have HGX : Hid (∀ g, G1 g → ¬ G2 g) := hgx
                have HG1 : Hid (∀ g, G1 g ∨ G2 g → w.heap.size ≤ g) := fun g hg => by
                  rcases hg with e | e
                  · rcases hg1 g e with e | e
                    · exact HFA.out g e
                    · exact Nat.le_trans HB10.out.size e
                  · rcases hg2 g e with e | e
                    · exact HFB.out g e
                    · exact Nat.le_trans HB10.out.size e
                clear CB hd1 hd2 hc hg1 hg2 hgx hnn hmm2 hTA hTB HMT hz HFA HFB HB10 HDA9 HDB9 HIA HIB HCM HB9 HAB
                -- what is known
                have C1 := known_get A TA G1 w11 HDA1.out
                go_wp2_with fail
                refine C1.mono ?_
                rintro e w12 ⟨v12, rfl, hk12, _, hb12⟩
                have HK12 : Hid (KnAt w12 v12 TA.known) := hk12
                have HB12 : Hid (Below w11.heap.size w11 w12) := hb12
                obtain ⟨p12, n12, c12, rfl⟩ : ∃ p n c, v12 = .slice p n c := by obtain ⟨_, _, e9, _⟩ := hk12; exact ⟨_, _, _, e9⟩
                clear C1 hk12 hb12
                have C2 := known_get B TB G2 w12 (HDB1.out.below HB12.out)
                go_wp2_with fail
                refine C2.mono ?_
                rintro e w13 ⟨v13, rfl, hk13, _, hb13⟩
                have HB13 : Hid (Below w11.heap.size w11 w13) := bel HB12.out hb13
                have HK13 : Hid (KnAt w13 (.slice p12 n12 c12) TA.known) := HK12.out.below hb13
                obtain ⟨p13, c13, rfl, hi13⟩ := hk13
                obtain ⟨q12, d12, e12, hi12⟩ := HK13.out
                injection e12 with e12a e12b e12c
                subst e12a e12c
                have C3 := Dg.ints_any p12 p13 n12 TB.known.length c12 c13 TA.known TB.known w13 e12b.symm rfl (by rw [e12b, HDA1.out.inv.klen]; omega) hi12 hi13
                rw [show (TA.known == TB.known) = true by rw [HT.out.known]; simp] at C3
                obtain ⟨n13, hn13⟩ : ∃ n13, n13 = TB.known.length := ⟨_, rfl⟩
                rw [← hn13] at C3
                rw [← hn13]
                clear C2 hb13 HK12 HK13 hi12 hi13 e12b hn13 HB12
                go_wp2_with fail
                refine C3.mono ?_
                rintro e w14 ⟨rfl, hb14⟩
                have HB14 : Hid (Below w11.heap.size w11 w14) := bel HB13.out hb14
                clear C3 hb14 HB13
                -- the books
                have C4 := book_get A TA G1 w14 (HDA1.out.below HB14.out)
                go_wp2_with fail
                refine C4.mono ?_
                rintro e w15 ⟨v15, rfl, hk15, hb15⟩
                obtain ⟨p15, n15, c15, rfl⟩ := at_shape hk15.1
                have HK15 : Hid (BookAt w15 (.slice p15 n15 c15) TA.book) := hk15.1
                have HB15 : Hid (Below w11.heap.size w11 w15) := bel HB14.out hb15
                clear C4 hk15 hb15 HB14
                have C5 := book_get B TB G2 w15 (HDB1.out.below HB15.out)
                go_wp2_with fail
                refine C5.mono ?_
                rintro e w16 ⟨v16, rfl, hk16, hb16⟩
                obtain ⟨p16, n16, c16, rfl⟩ := at_shape hk16.1
                have HB16 : Hid (Below w11.heap.size w11 w16) := bel HB15.out hb16
                have C6 := Lk.leafs_any _ _ _ _ w16 (HK15.out.below hb16) hk16.1 (by have := few_book HDA1.out.inv; omega)
                rw [decide_eq_true HT.out.book] at C6
                clear C5 hk16 hb16 HB15 HK15
                go_wp2_with fail
                refine C6.mono ?_
                rintro e w17 ⟨rfl, hb17⟩
                have HB17 : Hid (Below w11.heap.size w11 w17) := bel HB16.out hb17
                clear C6 hb17 HB16
                -- the marks
                have C7 := marks_get A TA G1 w17 (HDA1.out.below HB17.out)
                go_wp2_with fail
                refine C7.mono ?_
                rintro e w18 ⟨v18, rfl, hk18, hb18⟩
                obtain ⟨p18, n18, c18, rfl⟩ := mk_shape hk18.1
                have HK18 : Hid (MksAt w18 (.slice p18 n18 c18) TA.marks) := hk18.1
                have HB18 : Hid (Below w11.heap.size w11 w18) := bel HB17.out hb18
                clear C7 hk18 hb18 HB17
                have C8 := marks_get B TB G2 w18 (HDB1.out.below HB18.out)
                go_wp2_with fail
                refine C8.mono ?_
                rintro e w19 ⟨v19, rfl, hk19, hb19⟩
                obtain ⟨p19, n19, c19, rfl⟩ := mk_shape hk19.1
                have HB19 : Hid (Below w11.heap.size w11 w19) := bel HB18.out hb19
                have C9 := Np.marks_any _ _ _ _ w19 (HK18.out.below hb19) hk19.1 (by have := few_marks HDA1.out.inv; omega)
                rw [decide_eq_true HT.out.marks] at C9
                clear C8 hk19 hb19 HB18 HK18
                go_wp2_with fail
                refine C9.mono ?_
                rintro e w20 ⟨rfl, hb20⟩
                have HB20 : Hid (Below w11.heap.size w11 w20) := bel HB19.out hb20
                clear C9 hb20 HB19
                -- once more
                have C10 := both_any A B TA TB G1 G2 w20 (HDA1.out.below HB20.out) (HDB1.out.below HB20.out) HGX.out
                go_wp2_with fail
                refine C10.mono ?_
                rintro e w21 ⟨he, H1, H2, hd1, hd2, hc, _⟩
                rw [HT.out.e1, HT.out.n1, HT.out.m1, errV_zero] at he
                rw [HT.out.sa] at hd1
                rw [HT.out.sb] at hd2
                subst he
                have HB21 : Hid (Below w.heap.size w w21) := hc.below HG1.out (bel HB11.out HB20.out) (bel HB11.out HB20.out).size
                have HDA2 : Hid (DocAt w21 A TA H1) := hd1
                have HDB2 : Hid (DocAt w21 B TB H2) := hd2
                clear C10 hd1 hd2 hc HDA1 HDB1 HB20 HB11 HG1 HGX
                have C11 := ops_get A TA H1 w21 HDA2.out
                go_wp2_with fail
                refine C11.mono ?_
                rintro e w22 ⟨v22, rfl, ho22, hb22⟩
                have HO22 : Hid (OpsAt w22 v22 TA.ops) := ho22.at
                have HB22 : Hid (Below w21.heap.size w21 w22) := hb22
                obtain ⟨p22, n22, c22, rfl⟩ := new_shape ho22
                clear C11 ho22 hb22
                have C12 := known_get B TB H2 w22 (HDB2.out.below HB22.out)
                go_wp2_with fail
                refine C12.mono ?_
                rintro e w23 ⟨v23, rfl, hk23, _, hb23⟩
                have HB23 : Hid (Below w21.heap.size w21 w23) := bel HB22.out hb23
                obtain ⟨p23, n23, c23, rfl⟩ : ∃ p n c, v23 = .slice p n c := by obtain ⟨_, _, e9, _⟩ := hk23; exact ⟨_, _, _, e9⟩
                have C13 := lacks_any _ _ TA.ops TB.known w23 (HO22.out.below hb23) (right_len HDA2.out.inv.right) hk23
                clear C12 hk23 hb23 HO22 HB22
                go_wp2_with fail
                refine C13.mono ?_
                rintro e w24 ⟨p24, n24, c24, he, ho24, hb24⟩
                rw [HT.out.le, errV_zero] at he
                rw [HT.out.le, HT.out.ll] at ho24
                obtain ⟨q24, d24, e24, _⟩ := ho24
                injection e24 with e24a e24b e24c
                have h24 : n24 = 0 := by rw [e24b]; rfl
                subst h24
                subst he
                have HB24 : Hid (Below w.heap.size w w24) := bel HB21.out (bel HB23.out hb24)
                clear C13 hb24 e24a e24b e24c HB23 HB21 HT
                go_wp2_with fail
                go_ret
                exact ⟨rfl, HB24.out⟩
              · obtain ⟨ez, hez⟩ : ∃ ez, ez = botE SA SB := ⟨_, rfl⟩
                have HEZ : Hid (ez = botE SA SB) := hez
                have HZ : Hid (botE SA SB ≠ 0) := hz
                clear hez hz
                go_wp2_with fail
                refine CB.mono ?_
                rintro e w11 ⟨he, G1, G2, _, _, hc, _⟩
                obtain ⟨nn, hnn⟩ : ∃ nn, nn = botN SA SB := ⟨_, rfl⟩
                obtain ⟨mm2, hmm2⟩ : ∃ mm2, mm2 = botM SA SB := ⟨_, rfl⟩
                rw [← hnn, ← hmm2, errV_ne HZ.out, ← HEZ.out] at he
                subst he
                have HB11 : Hid (Below w.heap.size w w11) := hc.below (fun g hg => by rcases hg with e | e; exact HFA.out g e; exact HFB.out g e) HB10.out HB10.out.size
                clear CB hc hnn hmm2
                go_wp2_with fail
                go_ret
                exact ⟨rfl, HB11.out⟩

end Ak
end Go.Proofs.Ytonbohekiliepaa
