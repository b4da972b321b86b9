/- The walk of EditApart. -/
import Derived.Test.YtonbohekiliepaaUh
import Derived.Test.YtonbohekiliepaaIq
import Derived.Deep.DeepCutAuto
namespace Go.Proofs.Ytonbohekiliepaa
namespace Ui
set_option linter.unusedVariables false
set_option linter.unusedSimpArgs false
open Go.ChangeShapes Go.WideShapes Go.ChangeAt Go.RowKit Cm Ka Kb Na Om Oa Oz Oc Og Oi Hm Ia Ib Ic Idc Ie If Ig Ih Ii Ij Ik Il Im Um Ua Ub Uc Ud Ue Uf Uh
open La (bel bel_drew errV_zero errV_ne own_ge own_grow own_below Lies LeafsIn)
open Lj (BookAt BookNew)
open Iq (run run_next run_inv off_old)

def tx : ByteArray := ⟨#[120]⟩
def ix : List Ox := insL d0 3 0 tx
theorem ixE : insE d0 3 0 tx = 0 := by kernel_rfl
theorem ixR : runE d0 ix = 0 := by kernel_rfl
theorem ixT : Lf.textR (runS d0 ix).book = ⟨#[120]⟩ := by kernel_rfl
theorem ixS : ∀ x ∈ ix, x.2.2.1.size ≤ maxLen := fun x hx => by
  have := small_ops (S := d0) (who := 3) (off := 0) (t := tx) inv_zero.book (insE_zero.1 ixE) x hx
  unfold maxLen; omega
theorem ops_max {S : Dq} {who off : Int} {t : ByteArray} (I : Inv S) (h : insE S who off t = 0) : ∀ x ∈ insL S who off t, x.2.2.1.size ≤ maxLen := fun x hx => by
  have := small_ops I.book (insE_zero.1 h) x hx
  unfold maxLen; omega
theorem new_shape {B : Nat} {w : World} {v : Value} {l : List Ox} (h : OpsNew B w v l) : ∃ p n c, v = .slice p n c := by
  obtain ⟨g, L, e, _⟩ := h; exact ⟨_, _, _, e⟩
theorem at_shape {w : World} {v : Value} {l : List Bm.Leaf} (h : BookAt w v l) : ∃ p n c, v = .slice p n c := by
  obtain ⟨p, c, e, _⟩ := h; exact ⟨_, _, _, e⟩

set_option maxRecDepth 100000 in
set_option maxHeartbeats 8000000 in
theorem walk (vl : Value) (l : List Ox) (who at_ : Int) (t : ByteArray) (other to_ : Int) (word : ByteArray) (w : World) (hl : OpsAt w vl l) (hsz : ∀ x ∈ l, x.2.2.1.size ≤ maxLen) (ht : t.size ≤ maxLen) (hw : word.size ≤ maxLen) :
    Calls Try.prog 4 #[vl, .int .i64 who, .int .i64 at_, .string t, .int .i64 other, .int .i64 to_, .string word] w fun e w' => e = .returned (.bool true) ∧ Below w.heap.size w w' := by
  obtain ⟨ql, cl, rfl, hlin, _⟩ := hl
  obtain ⟨n, hn⟩ : ∃ n, n = l.length := ⟨_, rfl⟩
  rw [← hn]
  have HN : Hid (l.length = n) := hn.symm
  have HLI : Hid (OpsIn w ql l) := hlin
  have HSZ : Hid (∀ x ∈ l, x.2.2.1.size ≤ maxLen) := hsz
  have HTM : Hid (t.size ≤ maxLen ∧ word.size ≤ maxLen) := ⟨ht, hw⟩
  clear hlin hsz hn ht hw
  go_enter Try.func4, Try.ntmps4
  go_wp2_with fail
  refine (new_any w).mono ?_
  rintro e w1 ⟨D1, F1, rfl, hd1, hf1, hb1⟩
  have HD1 : Hid (DocAt w1 D1 d0 F1) := hd1
  have HB1 : Hid (Below w.heap.size w w1) := hb1
  have HF1 : Hid (∀ g, F1 g → w.heap.size ≤ g ∧ g < w1.heap.size) := fun g hg => ⟨hf1 g hg, hd1.lt g hg⟩
  clear hd1 hf1 hb1
  go_wp2_with fail
  refine (new_any w1).mono ?_
  rintro e w2 ⟨D2, F2, rfl, hd2, hf2, hb2⟩
  have HD2 : Hid (DocAt w2 D2 d0 F2 ∧ DocAt w2 D1 d0 F1) := ⟨hd2, HD1.out.below hb2⟩
  have HB2 : Hid (Below w.heap.size w w2) := bel HB1.out hb2
  have HF2 : Hid (∀ g, F2 g → w1.heap.size ≤ g ∧ g < w2.heap.size) := fun g hg => ⟨hf2 g hg, hd2.lt g hg⟩
  have HZ2 : Hid (w1.heap.size ≤ w2.heap.size) := hb2.size
  have CI := insert_any D1 d0 F1 3 0 tx w2 HD2.out.2 (by unfold maxLen; decide)
  clear hd2 hf2 hb2 HD1
  go_wp2_with fail
  refine CI.mono ?_
  rintro e w3 ⟨v3, he, ho3, _, hb3⟩
  rw [ixE, errV_zero] at he
  subst he
  obtain ⟨p3, n3, c3, rfl⟩ := new_shape (ho3 ixE)
  have HO3 : Hid (OpsG (fun g => w2.heap.size ≤ g ∧ g < w3.heap.size) w3 (.slice p3 n3 c3) ix) := OpsG.new (ho3 ixE)
  have HB3 : Hid (Below w.heap.size w w3) := bel HB2.out hb3
  have HZ3 : Hid (w2.heap.size ≤ w3.heap.size) := hb3.size
  have CD : Calls Try.prog 17 #[.pointer (some ⟨D1, 0, none⟩), .slice p3 n3 c3] w3 (DoPost w3 D1 d0 F1 ix) := do_any D1 d0 F1 _ _ ix w3 (HD2.out.2.below hb3) HO3.out (fun g hg => ⟨hg.2, fun e => by have := (HF1.out g e).2; have := HZ2.out; have := hg.1; omega⟩) ixS
  have HD3 : Hid (DocAt w3 D2 d0 F2) := HD2.out.1.below hb3
  clear CI ho3 hb3 HD2
  go_wp2_with fail
  refine CD.mono ?_
  rintro e w4 ⟨he, F1', hd4, hc4, hf4⟩
  rw [ixR, errV_zero] at he
  subst he
  have HD4 : Hid (DocAt w4 D2 d0 F2) := HD3.out.chg hc4 (fun g hg e => by have := (HF1.out g e).2; have := (HF2.out g hg).1; omega)
  have HO4 : Hid (OpsG (fun g => w2.heap.size ≤ g ∧ g < w3.heap.size) w4 (.slice p3 n3 c3) ix) := HO3.out.stay (hc4.stay fun g hg => ⟨hg.2, fun e => by have := (HF1.out g e).2; have := HZ2.out; have := hg.1; omega⟩)
  have HB4 : Hid (Below w.heap.size w w4) := hc4.below (fun g hg => (HF1.out g hg).1) HB3.out HB3.out.size
  have HZ4 : Hid (w3.heap.size ≤ w4.heap.size) := hc4.size
  have CD2 : Calls Try.prog 17 #[.pointer (some ⟨D2, 0, none⟩), .slice p3 n3 c3] w4 (DoPost w4 D2 d0 F2 ix) := do_any D2 d0 F2 _ _ ix w4 HD4.out HO4.out (fun g hg => ⟨by have := hg.2; have := HZ4.out; omega, fun e => by have := (HF2.out g e).2; have := hg.1; omega⟩) ixS
  clear CD hd4 hc4 hf4 HD3 HO3
  go_wp2_with fail
  refine CD2.mono ?_
  rintro e w5 ⟨he, F2', hd5, hc5, hf5⟩
  rw [ixR, errV_zero] at he
  subst he
  have HB5 : Hid (Below w.heap.size w w5) := hc5.below (fun g hg => Nat.le_trans HB1.out.size (HF2.out g hg).1) HB4.out HB4.out.size
  have CT := text_get D2 (runS d0 ix) F2' w5 hd5
  rw [ixT] at CT
  clear CD2 hd5 hc5 hf5 HO4 HD4 HB4 HB3 HB2 HB1 HF1 HF2 HZ2 HZ3 HZ4
  go_wp2_with fail
  refine CT.mono ?_
  rintro e w6 ⟨rfl, hb6⟩
  have HB6 : Hid (Below w.heap.size w w6) := bel HB5.out hb6
  clear CT hb6 HB5
  go_wp2_with fail
  refine (new_any w6).mono ?_
  rintro e w7 ⟨A, F7, rfl, hd7, hf7, hb7⟩
  have HD7 : Hid (DocAt w7 A d0 F7) := hd7
  have HB7 : Hid (Below w.heap.size w w7) := bel HB6.out hb7
  have HF7 : Hid (∀ g, F7 g → w.heap.size ≤ g ∧ g < w7.heap.size) := fun g hg => ⟨Nat.le_trans HB6.out.size (hf7 g hg), hd7.lt g hg⟩
  clear hd7 hf7 hb7 HB6
  go_wp2_with fail
  refine (new_any w7).mono ?_
  rintro e w8 ⟨B, F8, rfl, hd8, hf8, hb8⟩
  have HDA : Hid (DocAt w8 A (run l 0) F7) := HD7.out.below hb8
  have HDB : Hid (DocAt w8 B (run l 0) F8) := hd8
  have HB8 : Hid (Below w.heap.size w w8) := bel HB7.out hb8
  have HFA : Hid (∀ g, F7 g → w.heap.size ≤ g) := fun g hg => (HF7.out g hg).1
  have HFB : Hid (∀ g, F8 g → w.heap.size ≤ g) := fun g hg => Nat.le_trans HB7.out.size (hf8 g hg)
  have HAB : Hid (∀ g, F7 g → ¬ F8 g) := fun g h1 h2 => by have := (HF7.out g h1).2; have := hf8 g h2; omega
  clear hd8 hf8 hb8 HB7 HF7 HD7
  go_wp2_with fail
  go_loopw [19] (fun vi wr => ∃ (k : Nat) (Fa Fb : Nat → Prop), k ≤ n ∧ k ≤ 60 ∧ vi = .int .i64 k ∧ Hid (DocAt wr A (run l k) Fa) ∧ Hid (DocAt wr B (run l k) Fb) ∧ Hid (∀ g, Fa g → w.heap.size ≤ g) ∧ Hid (∀ g, Fb g → w.heap.size ≤ g) ∧ Hid (∀ g, Fa g → ¬ Fb g) ∧ Hid (Below w.heap.size w wr)) (fun vi _ => 60 - (intOf vi).toNat)
  case atStart => exact ⟨0, F7, F8, by omega, by omega, rfl, HDA, HDB, HFA, HFB, HAB, HB8⟩
  case round =>
    clear HDA HDB HFA HFB HAB HB8
    obtain ⟨k, Fa, Fb, hk, hk60, rfl, HDA, HDB, HFA, HFB, HAB, HB⟩ := hrel
    go_upto_region 9 with fail
    go_cut [60] from 53 to 74 (fun s60 wx => ∃ t : Bool, s60 = .bool t ∧ Hid (t = decide (k < n ∧ k < 60)) ∧ wr = wx)
    case first =>
      by_cases h1 : k < n
      · have h1z : (k : Int) < n := by omega
        by_cases h2 : k < 60
        · have h2z : (k : Int) < 60 := by omega
          go_wp2_with fail
          go_meet
          case rel => exact ⟨true, rfl, (decide_eq_true ⟨h1, h2⟩).symm, rfl⟩
        · have h2z : ¬ (k : Int) < 60 := by omega
          have H2 : Hid (decide (k < n ∧ k < 60) = false) := decide_eq_false (fun h => h2 h.2)
          go_wp2_with fail
          go_meet
          case rel => exact ⟨false, by simp [h2], H2.out.symm, rfl⟩
      · have h1z : ¬ (k : Int) < n := by omega
        have H2 : Hid (decide (k < n ∧ k < 60) = false) := decide_eq_false (fun h => h1 h.1)
        go_wp2_with fail
        go_meet
        case rel => exact ⟨false, rfl, H2.out.symm, rfl⟩
    case rest =>
    obtain ⟨tt, rfl, HTT, rfl⟩ := hcut
    cases tt
    case true =>
      obtain ⟨hlt1, hlt2⟩ := of_decide_eq_true HTT.out.symm
      have hltz : (k : Int) < n := by omega
      have hkl : k < l.length := by rw [HN.out]; exact hlt1
      obtain ⟨bo, oo, rfl, hc⟩ := HLI.out.some (by intro e; rw [e] at hkl; simp at hkl)
      have ha0 := hc k hkl
      have hxm := HSZ.out _ (getO_mem hkl)
      have HRN : Hid (run l (k + 1) = apS (run l k) (l.getD k oz)) := run_next hkl
      obtain ⟨x, hx⟩ : ∃ x, x = l.getD k oz := ⟨_, rfl⟩
      rw [← hx] at ha0 hxm HRN
      obtain ⟨⟨xa, xb⟩, xt, xp, xc, xs⟩ := x
      obtain ⟨vx, ⟨g0, g1, g2, g3, g4, g5⟩, hdx0⟩ := ha0
      simp only at g0 g1 g2 g3 g4 g5 hdx0 hxm
      obtain ⟨pv, nv, cv, rfl⟩ : ∃ pv nv cv, vx = .slice pv nv cv := by obtain ⟨_, _, e9, _⟩ := hdx0; exact ⟨_, _, _, e9⟩
      have HSX : Hid (∀ W, Below w.heap.size w W → W.cell? ⟨bo, oo + k * 6, none⟩ = some (.int .i64 xa) ∧ W.cell? ⟨bo, oo + k * 6 + 1, none⟩ = some (.int .i64 xb) ∧ W.cell? ⟨bo, oo + k * 6 + 2, none⟩ = some (.int .i64 xt) ∧ W.cell? ⟨bo, oo + k * 6 + 3, none⟩ = some (.string xp) ∧ W.cell? ⟨bo, oo + k * 6 + 4, none⟩ = some (.int .i64 xc) ∧ W.cell? ⟨bo, oo + k * 6 + 5, none⟩ = some (.slice pv nv cv)) := fun W hb => ⟨keep_cell hb g0, keep_cell hb g1, keep_cell hb g2, keep_cell hb g3, keep_cell hb g4, keep_cell hb g5⟩
      have HDX : Hid (DtsAt w (.slice pv nv cv) xs ∧ xp.size ≤ maxLen) := ⟨hdx0, hxm⟩
      have C := apply_any A (run l k) Fa xa xb xt xp xc (.slice pv nv cv) xs wr HDA.out (hdx0.below HB.out) (off_old hdx0 HFA.out) hxm
      obtain ⟨a0, a1, a2, a3, a4, a5⟩ := HSX.out wr HB.out
      clear hc hx hkl hxm hdx0 g0 g1 g2 g3 g4 g5
      go_wp2_with fail
      refine C.mono ?_
      rintro e w9 ⟨he, _, F9, hd9, hc9, hf9⟩
      have HD9 : Hid (DocAt w9 A (run l (k + 1)) F9) := by unfold Hid; rw [HRN.out]; exact hd9
      have HB9 : Hid (Below w.heap.size w w9) := hc9.below HFA.out HB.out HB.out.size
      have HF9 : Hid (∀ g, F9 g → w.heap.size ≤ g) := fun g hg => by
        rcases hf9 g hg with e | e
        · exact HFA.out g e
        · exact Nat.le_trans HB.out.size e
      have HD9b : Hid (DocAt w9 B (run l k) Fb) := HDB.out.chg hc9 (fun g h1 h2 => HAB.out g h2 h1)
      have HAB9 : Hid (∀ g, F9 g → ¬ Fb g) := fun g h1 h2 => by
        rcases hf9 g h1 with e | e
        · exact HAB.out g e h2
        · have := HDB.out.lt g h2; omega
      obtain ⟨ev, hev⟩ : ∃ ev, ev = Value.tuple #[.bool (isNew (run l k) ((xa, xb), xt, xp, xc, xs)), errV (apE (run l k) ((xa, xb), xt, xp, xc, xs))] := ⟨_, rfl⟩
      rw [← hev] at he
      subst he
      have C2 := apply_any B (run l k) Fb xa xb xt xp xc (.slice pv nv cv) xs w9 HD9b.out (HDX.out.1.below HB9.out) (off_old HDX.out.1 HFB.out) HDX.out.2
      obtain ⟨b0, b1, b2, b3, b4, b5⟩ := HSX.out w9 HB9.out
      clear hd9 hc9 hf9 C a0 a1 a2 a3 a4 a5 hev HDA HFA HB HAB
      go_wp2_with fail
      refine C2.mono ?_
      rintro e w10 ⟨he, _, F10, hd10, hc10, hf10⟩
      have HD10 : Hid (DocAt w10 B (run l (k + 1)) F10) := by unfold Hid; rw [HRN.out]; exact hd10
      have HB10 : Hid (Below w.heap.size w w10) := hc10.below HFB.out HB9.out HB9.out.size
      have HF10 : Hid (∀ g, F10 g → w.heap.size ≤ g) := fun g hg => by
        rcases hf10 g hg with e | e
        · exact HFB.out g e
        · exact Nat.le_trans HB9.out.size e
      have HD10a : Hid (DocAt w10 A (run l (k + 1)) F9) := HD9.out.chg hc10 (fun g h1 h2 => HAB9.out g h1 h2)
      have HAB10 : Hid (∀ g, F9 g → ¬ F10 g) := fun g h1 h2 => by
        rcases hf10 g h2 with e | e
        · exact HAB9.out g h1 e
        · have := HD9.out.lt g h1; omega
      obtain ⟨ev2, hev⟩ : ∃ ev2, ev2 = Value.tuple #[.bool (isNew (run l k) ((xa, xb), xt, xp, xc, xs)), errV (apE (run l k) ((xa, xb), xt, xp, xc, xs))] := ⟨_, rfl⟩
      rw [← hev] at he
      subst he
      clear hd10 hc10 hf10 C2 b0 b1 b2 b3 b4 b5 hev
      go_wp2_with fail
      go_roundw
      case rel => exact ⟨k + 1, F9, F10, by omega, by omega, by go_num, HD10a, HD10, HF9, HF10, HAB10, HB10⟩
      case measure => simp [intOf]; omega
    case false =>
      obtain ⟨S, hS⟩ : ∃ S, S = run l k := ⟨_, rfl⟩
      have HI : Hid (Inv S) := by unfold Hid; rw [hS]; exact run_inv l k
      rw [← hS] at HDA HDB
      clear hS HSZ HLI HTT
      by_cases hwo : who = other
      · have hwb : (who == other) = true := by rw [hwo]; simp
        clear hwo
        go_wp2_with fail
        go_ret
        exact ⟨rfl, HB.out⟩
      have hwb : (who == other) = false := by simpa using hwo
      have HWO : Hid (who ≠ other) := hwo
      have HLA : Hid (∀ g, Fa g → g < wr.heap.size) := HDA.out.lt
      have HLB : Hid (∀ g, Fb g → g < wr.heap.size) := HDB.out.lt
      have CI := insert_any A S Fa who at_ t wr HDA.out HTM.out.1
      clear hwo
      by_cases hx0 : insE S who at_ t = 0
      case neg =>
        obtain ⟨ez, hez⟩ : ∃ ez, ez = insE S who at_ t := ⟨_, rfl⟩
        rw [← hez] at CI hx0
        have HX0 : Hid (ez ≠ 0) := hx0
        clear hez hx0
        go_wp2_with fail
        refine CI.mono ?_
        rintro e w9 ⟨v9, he, _, hv9, hb9⟩
        have := hv9 HX0.out
        subst this
        rw [errV_ne HX0.out] at he
        subst he
        have HB9 : Hid (Below w.heap.size w w9) := bel HB.out hb9
        have CI2 := insert_any B S Fb other to_ word w9 (HDB.out.below hb9) HTM.out.2
        clear CI hv9 hb9
        obtain ⟨ey, hey⟩ : ∃ ey, ey = insE S other to_ word := ⟨_, rfl⟩
        rw [← hey] at CI2
        clear hey
        go_wp2_with fail
        refine CI2.mono ?_
        rintro e w10 ⟨v10, he, _, _, hb10⟩
        have HB10 : Hid (Below w.heap.size w w10) := bel HB9.out hb10
        obtain ⟨ev, hev⟩ : ∃ ev, ev = errV ey := ⟨_, rfl⟩
        rw [← hev] at he
        subst he
        clear CI2 hb10 hev
        go_wp2_with fail
        go_ret
        exact ⟨rfl, HB10.out⟩
      case pos =>
      have HX0 : Hid (insE S who at_ t = 0) := hx0
      have HXM := ops_max HI.out hx0
      have HOX : Hid (InsOk S who at_ t) := insE_zero.1 hx0
      rw [hx0] at CI
      clear hx0
      go_wp2_with fail
      refine CI.mono ?_
      rintro e w9 ⟨v9, he, hv9, _, hb9⟩
      rw [errV_zero] at he
      subst he
      have hv9 := hv9 rfl
      obtain ⟨p9, n9, c9, rfl⟩ := new_shape hv9
      have HXG : Hid (OpsG (fun g => wr.heap.size ≤ g ∧ g < w9.heap.size) w9 (.slice p9 n9 c9) (insL S who at_ t)) := OpsG.new hv9
      have HB9 : Hid (Below w.heap.size w w9) := bel HB.out hb9
      have HZ9 : Hid (wr.heap.size ≤ w9.heap.size) := hb9.size
      have HD9 : Hid (DocAt w9 A S Fa ∧ DocAt w9 B S Fb) := ⟨HDA.out.below hb9, HDB.out.below hb9⟩
      have HXM2 : Hid (∀ x ∈ insL S who at_ t, x.2.2.1.size ≤ maxLen) := HXM
      obtain ⟨X, hX⟩ : ∃ X, X = insL S who at_ t := ⟨_, rfl⟩
      have HXE : Hid (X = insL S who at_ t) := hX
      rw [← hX] at HXG HXM2
      have CI2 := insert_any B S Fb other to_ word w9 HD9.out.2 HTM.out.2
      clear CI hv9 hb9 HDA HDB HXM hX
      by_cases hy0 : insE S other to_ word = 0
      case neg =>
        obtain ⟨ez, hez⟩ : ∃ ez, ez = insE S other to_ word := ⟨_, rfl⟩
        rw [← hez] at CI2 hy0
        have HY0 : Hid (ez ≠ 0) := hy0
        clear hez hy0
        go_wp2_with fail
        refine CI2.mono ?_
        rintro e w10 ⟨v10, he, _, hv10, hb10⟩
        have := hv10 HY0.out
        subst this
        rw [errV_ne HY0.out] at he
        subst he
        have HB10 : Hid (Below w.heap.size w w10) := bel HB9.out hb10
        clear CI2 hv10 hb10
        go_wp2_with fail
        go_ret
        exact ⟨rfl, HB10.out⟩
      case pos =>
      have HOY : Hid (InsOk S other to_ word) := insE_zero.1 hy0
      have HYM : Hid (∀ x ∈ insL S other to_ word, x.2.2.1.size ≤ maxLen) := ops_max HI.out hy0
      rw [hy0] at CI2
      clear hy0
      go_wp2_with fail
      refine CI2.mono ?_
      rintro e w10 ⟨v10, he, hv10, _, hb10⟩
      rw [errV_zero] at he
      subst he
      have hv10 := hv10 rfl
      obtain ⟨p10, n10, c10, rfl⟩ := new_shape hv10
      have HYG : Hid (OpsG (fun g => w9.heap.size ≤ g ∧ g < w10.heap.size) w10 (.slice p10 n10 c10) (insL S other to_ word)) := OpsG.new hv10
      have HB10 : Hid (Below w.heap.size w w10) := bel HB9.out hb10
      have HZ10 : Hid (w9.heap.size ≤ w10.heap.size) := hb10.size
      have HD10 : Hid (DocAt w10 A S Fa ∧ DocAt w10 B S Fb) := ⟨HD9.out.1.below hb10, HD9.out.2.below hb10⟩
      have HXG10 : Hid (OpsG (fun g => wr.heap.size ≤ g ∧ g < w9.heap.size) w10 (.slice p9 n9 c9) X) := HXG.out.stay fun g hg => hb10.block g hg.2
      obtain ⟨Y, hY⟩ : ∃ Y, Y = insL S other to_ word := ⟨_, rfl⟩
      have HYE : Hid (Y = insL S other to_ word) := hY
      rw [← hY] at HYG HYM
      have CD := do_any A S Fa _ _ X w10 HD10.out.1 HXG10.out (fun g hg => ⟨by have := hg.2; have := HZ10.out; omega, fun e => by have := HLA.out g e; have := hg.1; omega⟩) HXM2.out
      clear CI2 hv10 hb10 HD9 HXG hY
      by_cases hr1 : runE S X = 0
      case neg =>
        go_wp2_with fail
        refine CD.mono ?_
        rintro e w11 ⟨he, F11, hd11, hc11, hf11⟩
        rw [errV_ne hr1] at he
        have HB11 : Hid (Below w.heap.size w w11) := hc11.below HFA.out HB10.out HB10.out.size
        obtain ⟨ez, hez⟩ : ∃ ez, ez = runE S X := ⟨_, rfl⟩
        rw [← hez] at he
        subst he
        clear CD hd11 hc11 hf11 hr1 hez
        go_wp2_with fail
        go_ret
        exact ⟨rfl, HB11.out⟩
      case pos =>
      have HR1 : Hid (runE S X = 0) := hr1
      clear hr1
      go_wp2_with fail
      refine CD.mono ?_
      rintro e w11 ⟨he, F11, hd11, hc11, hf11⟩
      rw [HR1.out, errV_zero] at he
      subst he
      have HB11 : Hid (Below w.heap.size w w11) := hc11.below HFA.out HB10.out HB10.out.size
      have HZ11 : Hid (w10.heap.size ≤ w11.heap.size) := hc11.size
      have HD11 : Hid (DocAt w11 A (runS S X) F11 ∧ DocAt w11 B S Fb) := ⟨hd11, HD10.out.2.chg hc11 (fun g h1 h2 => HAB.out g h2 h1)⟩
      have HF11 : Hid (∀ g, F11 g → (Fa g ∨ w10.heap.size ≤ g) ∧ g < w11.heap.size) := fun g hg => ⟨hf11 g hg, hd11.lt g hg⟩
      have HXG11 : Hid (OpsG (fun g => wr.heap.size ≤ g ∧ g < w9.heap.size) w11 (.slice p9 n9 c9) X) := HXG10.out.stay (hc11.stay fun g hg => ⟨by have := hg.2; have := HZ10.out; omega, fun e => by have := HLA.out g e; have := hg.1; omega⟩)
      have HYG11 : Hid (OpsG (fun g => w9.heap.size ≤ g ∧ g < w10.heap.size) w11 (.slice p10 n10 c10) Y) := HYG.out.stay (hc11.stay fun g hg => ⟨hg.2, fun e => by have := HLA.out g e; have := hg.1; have := HZ9.out; omega⟩)
      have CD2 := do_any B S Fb _ _ Y w11 HD11.out.2 HYG11.out (fun g hg => ⟨by have := hg.2; have := HZ11.out; omega, fun e => by have := HLB.out g e; have := hg.1; have := HZ9.out; omega⟩) HYM.out
      clear CD hd11 hc11 hf11 HD10 HXG10 HYG
      by_cases hr2 : runE S Y = 0
      case neg =>
        go_wp2_with fail
        refine CD2.mono ?_
        rintro e w12 ⟨he, F12, hd12, hc12, hf12⟩
        rw [errV_ne hr2] at he
        have HB12 : Hid (Below w.heap.size w w12) := hc12.below HFB.out HB11.out HB11.out.size
        obtain ⟨ez, hez⟩ : ∃ ez, ez = runE S Y := ⟨_, rfl⟩
        rw [← hez] at he
        subst he
        clear CD2 hd12 hc12 hf12 hr2 hez
        go_wp2_with fail
        go_ret
        exact ⟨rfl, HB12.out⟩
      case pos =>
      have HR2 : Hid (runE S Y = 0) := hr2
      clear hr2
      go_wp2_with fail
      refine CD2.mono ?_
      rintro e w12 ⟨he, F12, hd12, hc12, hf12⟩
      rw [HR2.out, errV_zero] at he
      subst he
      have HB12 : Hid (Below w.heap.size w w12) := hc12.below HFB.out HB11.out HB11.out.size
      have HZ12 : Hid (w11.heap.size ≤ w12.heap.size) := hc12.size
      have HD12 : Hid (DocAt w12 A (runS S X) F11 ∧ DocAt w12 B (runS S Y) F12) := ⟨HD11.out.1.chg hc12 (fun g h1 h2 => by
        rcases (HF11.out g h1).1 with e | e
        · exact HAB.out g e h2
        · have := HLB.out g h2; have := HZ9.out; have := HZ10.out; omega), hd12⟩
      have HF12 : Hid (∀ g, F12 g → (Fb g ∨ w11.heap.size ≤ g) ∧ g < w12.heap.size) := fun g hg => ⟨hf12 g hg, hd12.lt g hg⟩
      have HXG12 : Hid (OpsG (fun g => wr.heap.size ≤ g ∧ g < w9.heap.size) w12 (.slice p9 n9 c9) X) := HXG11.out.stay (hc12.stay fun g hg => ⟨by have := hg.2; have := HZ10.out; have := HZ11.out; omega, fun e => by have := HLB.out g e; have := hg.1; omega⟩)
      have HYG12 : Hid (OpsG (fun g => w9.heap.size ≤ g ∧ g < w10.heap.size) w12 (.slice p10 n10 c10) Y) := HYG11.out.stay (hc12.stay fun g hg => ⟨by have := hg.2; have := HZ11.out; omega, fun e => by have := HLB.out g e; have := hg.1; have := HZ9.out; omega⟩)
      have CD3 := do_any A (runS S X) F11 _ _ Y w12 HD12.out.1 HYG12.out (fun g hg => ⟨by have := hg.2; have := HZ11.out; have := HZ12.out; omega, fun e => by
        rcases (HF11.out g e).1 with e | e
        · have := HLA.out g e; have := hg.1; have := HZ9.out; omega
        · have := hg.2; omega⟩) HYM.out
      clear CD2 hd12 hc12 hf12 HD11 HXG11 HYG11
      by_cases hr3 : runE (runS S X) Y = 0
      case neg =>
        go_wp2_with fail
        refine CD3.mono ?_
        rintro e w13 ⟨he, F13, hd13, hc13, hf13⟩
        rw [errV_ne hr3] at he
        have HB13 : Hid (Below w.heap.size w w13) := hc13.below (fun g hg => by
          rcases (HF11.out g hg).1 with e | e
          · exact HFA.out g e
          · exact Nat.le_trans HB10.out.size e) HB12.out HB12.out.size
        obtain ⟨ez, hez⟩ : ∃ ez, ez = runE (runS S X) Y := ⟨_, rfl⟩
        rw [← hez] at he
        subst he
        clear CD3 hd13 hc13 hf13 hr3 hez
        go_wp2_with fail
        go_ret
        exact ⟨rfl, HB13.out⟩
      case pos =>
      have HR3 : Hid (runE (runS S X) Y = 0) := hr3
      clear hr3
      go_wp2_with fail
      refine CD3.mono ?_
      rintro e w13 ⟨he, F13, hd13, hc13, hf13⟩
      rw [HR3.out, errV_zero] at he
      subst he
      have HB13 : Hid (Below w.heap.size w w13) := hc13.below (fun g hg => by
        rcases (HF11.out g hg).1 with e | e
        · exact HFA.out g e
        · exact Nat.le_trans HB10.out.size e) HB12.out HB12.out.size
      have HZ13 : Hid (w12.heap.size ≤ w13.heap.size) := hc13.size
      have HAB1 : Hid (∀ g, F11 g → ¬ F12 g) := fun g h1 h2 => by
        rcases (HF12.out g h2).1 with e | e
        · rcases (HF11.out g h1).1 with e1 | e1
          · exact HAB.out g e1 e
          · have := HLB.out g e; have := HZ9.out; have := HZ10.out; omega
        · have := (HF11.out g h1).2; omega
      have HD13 : Hid (DocAt w13 A (runS (runS S X) Y) F13 ∧ DocAt w13 B (runS S Y) F12) := ⟨hd13, HD12.out.2.chg hc13 (fun g h1 h2 => HAB1.out g h2 h1)⟩
      have HF13 : Hid (∀ g, F13 g → (F11 g ∨ w12.heap.size ≤ g) ∧ g < w13.heap.size) := fun g hg => ⟨hf13 g hg, hd13.lt g hg⟩
      have HXG13 : Hid (OpsG (fun g => wr.heap.size ≤ g ∧ g < w9.heap.size) w13 (.slice p9 n9 c9) X) := HXG12.out.stay (hc13.stay fun g hg => ⟨by have := hg.2; have := HZ10.out; have := HZ11.out; have := HZ12.out; omega, fun e => by
        rcases (HF11.out g e).1 with e | e
        · have := HLA.out g e; have := hg.1; omega
        · have := hg.2; have := HZ10.out; omega⟩)
      have HYG13 : Hid (OpsG (fun g => w9.heap.size ≤ g ∧ g < w10.heap.size) w13 (.slice p10 n10 c10) Y) := HYG12.out.stay (hc13.stay fun g hg => ⟨by have := hg.2; have := HZ11.out; have := HZ12.out; omega, fun e => by
        rcases (HF11.out g e).1 with e | e
        · have := HLA.out g e; have := hg.1; have := HZ9.out; omega
        · have := hg.2; omega⟩)
      have CD4 := do_any B (runS S Y) F12 _ _ X w13 HD13.out.2 HXG13.out (fun g hg => ⟨by have := hg.2; have := HZ10.out; have := HZ11.out; have := HZ12.out; have := HZ13.out; omega, fun e => by
        rcases (HF12.out g e).1 with e | e
        · have := HLB.out g e; have := hg.1; omega
        · have := hg.2; have := HZ10.out; have := HZ11.out; omega⟩) HXM2.out
      clear CD3 hd13 hc13 hf13 HD12 HXG12 HYG12
      by_cases hr4 : runE (runS S Y) X = 0
      case neg =>
        go_wp2_with fail
        refine CD4.mono ?_
        rintro e w14 ⟨he, F14, hd14, hc14, hf14⟩
        rw [errV_ne hr4] at he
        have HB14 : Hid (Below w.heap.size w w14) := hc14.below (fun g hg => by
          rcases (HF12.out g hg).1 with e | e
          · exact HFB.out g e
          · exact Nat.le_trans HB11.out.size e) HB13.out HB13.out.size
        obtain ⟨ez, hez⟩ : ∃ ez, ez = runE (runS S Y) X := ⟨_, rfl⟩
        rw [← hez] at he
        subst he
        clear CD4 hd14 hc14 hf14 hr4 hez
        go_wp2_with fail
        go_ret
        exact ⟨rfl, HB14.out⟩
      case pos =>
      have HR4 : Hid (runE (runS S Y) X = 0) := hr4
      clear hr4
      go_wp2_with fail
      refine CD4.mono ?_
      rintro e w14 ⟨he, F14, hd14, hc14, hf14⟩
      rw [HR4.out, errV_zero] at he
      subst he
      have HB14 : Hid (Below w.heap.size w w14) := hc14.below (fun g hg => by
        rcases (HF12.out g hg).1 with e | e
        · exact HFB.out g e
        · exact Nat.le_trans HB11.out.size e) HB13.out HB13.out.size
      have HD14 : Hid (DocAt w14 A (runS (runS S X) Y) F13 ∧ DocAt w14 B (runS (runS S Y) X) F14) := ⟨HD13.out.1.chg hc14 (fun g h1 h2 => by
        rcases (HF13.out g h1).1 with e | e
        · exact HAB1.out g e h2
        · have := (HF12.out g h2).2; omega), hd14⟩
      have HXG14 : Hid (OpsAt w14 (.slice p9 n9 c9) X) := (HXG13.out.stay (hc14.stay fun g hg => ⟨by have := hg.2; have := HZ10.out; have := HZ11.out; have := HZ12.out; have := HZ13.out; omega, fun e => by
        rcases (HF12.out g e).1 with e | e
        · have := HLB.out g e; have := hg.1; omega
        · have := hg.2; have := HZ10.out; have := HZ11.out; omega⟩)).at
      have HYG14 : Hid (OpsAt w14 (.slice p10 n10 c10) Y) := (HYG13.out.stay (hc14.stay fun g hg => ⟨by have := hg.2; have := HZ11.out; have := HZ12.out; have := HZ13.out; omega, fun e => by
        rcases (HF12.out g e).1 with e | e
        · have := HLB.out g e; have := hg.1; have := HZ9.out; omega
        · have := hg.2; have := HZ11.out; omega⟩)).at
      have HAP : Hid ((runS (runS S X) Y).book = (runS (runS S Y) X).book ∧ Stands (runS (runS S X) Y).book X t ∧ Stands (runS (runS S X) Y).book Y word) := by
        have q1 := HR1.out
        have q2 := HR2.out
        have q3 := HR3.out
        have q4 := HR4.out
        unfold Hid
        rw [HXE.out, HYE.out] at *
        exact apart HI.out HOX.out HOY.out HWO.out q1 q2 q3 q4
      obtain ⟨SA, hSA⟩ : ∃ SA, SA = runS (runS S X) Y := ⟨_, rfl⟩
      obtain ⟨SB, hSB⟩ : ∃ SB, SB = runS (runS S Y) X := ⟨_, rfl⟩
      rw [← hSA, ← hSB] at HD14 HAP
      have CA := book_get A SA F13 w14 HD14.out.1
      clear CD4 hd14 hc14 hf14 HD13 HXG13 HYG13 hSA hSB HF11 HF12 HF13 HAB1 HAB HLA HLB HFA HFB HR1 HR2 HR3 HR4 HB13 HB12 HB11 HB10 HB9 HZ9 HZ10 HZ11 HZ12 HZ13
      go_wp2_with fail
      refine CA.mono ?_
      rintro e w15 ⟨v15, rfl, hk15, hb15⟩
      obtain ⟨pa, na, ca, rfl⟩ := at_shape hk15.1
      have HKA : Hid (BookAt w15 (.slice pa na ca) SA.book) := hk15.1
      have HB15 : Hid (Below w14.heap.size w14 w15) := hb15
      have CB := book_get B SB F14 w15 (HD14.out.2.below hb15)
      clear CA hk15 hb15
      go_wp2_with fail
      refine CB.mono ?_
      rintro e w16 ⟨v16, rfl, hk16, hb16⟩
      obtain ⟨pb, nb, cb, rfl⟩ := at_shape hk16.1
      have HB16 : Hid (Below w14.heap.size w14 w16) := bel HB15.out hb16
      have CL := Lk.leafs_any (.slice pa na ca) (.slice pb nb cb) SA.book SB.book w16 (HKA.out.below hb16) hk16.1 (by have := few_book HD14.out.1.inv; omega)
      rw [decide_eq_true HAP.out.1] at CL
      clear CB hk16 hb16 HB15
      go_wp2_with fail
      refine CL.mono ?_
      rintro e w17 ⟨rfl, hb17⟩
      have HB17 : Hid (Below w14.heap.size w14 w17) := bel HB16.out hb17
      have CT := text_get A SA F13 w17 (HD14.out.1.below HB17.out)
      obtain ⟨TA, hTA⟩ : ∃ TA, TA = Lf.textR SA.book := ⟨_, rfl⟩
      rw [← hTA] at CT
      have HTA : Hid (Lf.textR SB.book = TA) := by unfold Hid; rw [hTA, HAP.out.1]
      clear CL hb17 HB16 hTA
      go_wp2_with fail
      refine CT.mono ?_
      rintro e w18 ⟨rfl, hb18⟩
      have HB18 : Hid (Below w14.heap.size w14 w18) := bel HB17.out hb18
      have CT2 := text_get B SB F14 w18 (HD14.out.2.below HB18.out)
      rw [HTA.out] at CT2
      clear CT hb18 HB17
      go_wp2_with fail
      refine CT2.mono ?_
      rintro e w19 ⟨rfl, hb19⟩
      have HB19 : Hid (Below w14.heap.size w14 w19) := bel HB18.out hb19
      have CA := book_get A SA F13 w19 (HD14.out.1.below HB19.out)
      clear CT2 hb19 HB18
      go_wp2_with fail
      refine CA.mono ?_
      rintro e w20 ⟨v20, rfl, hk20, hb20⟩
      obtain ⟨pc, nc, cc, rfl⟩ := at_shape hk20.1
      have HB20 : Hid (Below w14.heap.size w14 w20) := bel HB19.out hb20
      have CS := stand_yes (.slice pc nc cc) (.slice p9 n9 c9) SA.book X t w20 hk20.1 (HXG14.out.below HB20.out) (Bm.bookE_zero.1 HD14.out.1.inv.book).2.2 (few_book HD14.out.1.inv) HAP.out.2.1 HOX.out.few
      clear CA hk20 hb20 HB19
      go_wp2_with fail
      refine CS.mono ?_
      rintro e w21 ⟨rfl, hb21⟩
      have HB21 : Hid (Below w14.heap.size w14 w21) := bel HB20.out hb21
      have CA := book_get A SA F13 w21 (HD14.out.1.below HB21.out)
      clear CS hb21 HB20
      go_wp2_with fail
      refine CA.mono ?_
      rintro e w22 ⟨v22, rfl, hk22, hb22⟩
      obtain ⟨pd, nd, cd, rfl⟩ := at_shape hk22.1
      have HB22 : Hid (Below w14.heap.size w14 w22) := bel HB21.out hb22
      have CS := stand_yes (.slice pd nd cd) (.slice p10 n10 c10) SA.book Y word w22 hk22.1 (HYG14.out.below HB22.out) (Bm.bookE_zero.1 HD14.out.1.inv.book).2.2 (few_book HD14.out.1.inv) HAP.out.2.2 HOY.out.few
      clear CA hk22 hb22 HB21
      go_wp2_with fail
      refine CS.mono ?_
      rintro e w23 ⟨rfl, hb23⟩
      have HB23 : Hid (Below w14.heap.size w14 w23) := bel HB22.out hb23
      clear CS hb23 HB22
      go_wp2_with fail
      go_ret
      exact ⟨rfl, HB14.out.trans (HB23.out.mono HB14.out.size)⟩

end Ui
end Go.Proofs.Ytonbohekiliepaa
