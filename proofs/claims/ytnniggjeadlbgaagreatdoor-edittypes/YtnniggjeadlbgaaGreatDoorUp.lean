/- The walk of EditTypes. -/
import Derived.Test.YtnniggjeadlbgaaGreatDoorUf
import Derived.Test.YtnniggjeadlbgaaGreatDoorUo
import Derived.Test.YtnniggjeadlbgaaGreatDoorJ14
import Derived.Deep.DeepCutAuto
import Derived.Deep.RegionHeld3
namespace Go.Proofs.YtnniggjeadlbgaaGreatDoor
namespace Up
set_option linter.unusedVariables false
set_option linter.unusedSimpArgs false
open Go.ChangeShapes Go.WideShapes Go.ChangeAt Go.RowKit Cm Ka Kb Na Om Oa Oz Oc Og Oi Hm Ia Ib Ic Idc Ie If Ig Ih Ii Ij Ik Il Im Um Ua Ub Uc Ud Ue Uf
open La (bel bel_drew errV_zero errV_ne own_ge own_grow own_below Lies LeafsIn)
open Lj (BookAt BookNew)
open Kt (ET)

theorem isL_yes {x : Int} (h1 : ¬ x < 32) (h2 : ¬ 126 < x) : Bm.isL x = true := by unfold Bm.isL; simp; omega
theorem isL_low {x : Int} (h1 : x < 32) : Bm.isL x = false := by unfold Bm.isL; simp; omega
theorem isL_high {x : Int} (h1 : 126 < x) : Bm.isL x = false := by unfold Bm.isL; simp; omega
set_option maxRecDepth 100000 in
set_option maxHeartbeats 1000000 in
theorem plain_any (t : ByteArray) (w : World) (ht : t.size ≤ maxLen) :
    Calls Tryz.prog 34 #[.string t] w fun e w' => e = .returned (.bool (okText t)) ∧ w' = w := by
  have htz : (t.size : Int) ≤ 9223372036854775807 := by unfold maxLen at ht; omega
  go_enter Tryz.func34, Tryz.ntmps34
  go_wp2
  go_loopw [3] (fun i wr => ∃ (k : Nat), k ≤ t.size ∧ i = .int .i64 k ∧ Hid ((t.toList.take k).all (fun c => Bm.isL (c.toNat : Int)) = true) ∧ Hid (wr = w)) (fun i _ => t.size - (intOf i).toNat)
  case atStart => exact ⟨0, by omega, rfl, rfl, rfl⟩
  case round =>
    obtain ⟨k, hk, rfl, HT, HW⟩ := hrel
    by_cases hlt : k < t.size
    · have hltz : (k : Int) < t.size := by omega
      have HY : Hid (Bm.isL ((t.toList.getD k 0).toNat : Int) = true → (t.toList.take (k + 1)).all (fun c => Bm.isL (c.toNat : Int)) = true) := ok_take hlt HT.out
      have HNO : Hid (Bm.isL ((t.toList.getD k 0).toNat : Int) = false → okText t = false) := ok_no hlt
      rw [byte_at t k hlt] at HY HNO
      by_cases h1 : ((t[k]'hlt).toNat : Int) < 32
      · have HR : Hid (okText t = false) := HNO.out (isL_low h1)
        clear HY HNO
        go_wp2_with fail
        go_ret
        exact ⟨by rw [HR.out]; rfl, HW.out⟩
      · by_cases h2 : 126 < ((t[k]'hlt).toNat : Int)
        · have HR : Hid (okText t = false) := HNO.out (isL_high h2)
          clear HY HNO
          go_wp2_with fail
          go_ret
          exact ⟨by rw [HR.out]; rfl, HW.out⟩
        · have HY2 : Hid ((t.toList.take (k + 1)).all (fun c => Bm.isL (c.toNat : Int)) = true) := HY.out (isL_yes h1 h2)
          clear HY HNO
          go_wp2_with fail
          go_roundw
          case rel => exact ⟨k + 1, by omega, by go_num, HY2, HW⟩
          case measure => simp [intOf]; omega
    · have HR : Hid (okText t = true) := by
        have := HT.out
        rw [List.take_of_length_le (by rw [Om.len_eq]; omega)] at this
        exact this
      have hltz : ¬ (k : Int) < t.size := by omega
      go_wp2_with fail
      go_ret
      exact ⟨by rw [HR.out]; rfl, HW.out⟩
theorem new_shape {B : Nat} {w : World} {v : Value} {l : List Ox} (h : OpsNew B w v l) : ∃ p n c, v = .slice p n c := by
  obtain ⟨g, L, e, _⟩ := h; exact ⟨_, _, _, e⟩
theorem ops_max {S : Dq} {who off : Int} {t : ByteArray} (I : Inv S) (h : insE S who off t = 0) : ∀ x ∈ insL S who off t, x.2.2.1.size ≤ maxLen := fun x hx => by
  have := small_ops I.book (insE_zero.1 h) x hx
  unfold maxLen; omega
theorem toList_app (a b : ByteArray) : (a ++ b).toList = a.toList ++ b.toList := by
  rw [ByteArray.toList_eq, ByteArray.toList_eq, ByteArray.toList_eq]; simp
theorem str_add {x y : ByteArray} (h : x.size + y.size ≤ 1000) : Op.stringOp .add x y = (pure (.string (x ++ y)) : Sem Value) := by
  unfold Op.stringOp
  have h2 : ¬ (((x.size + y.size : Nat) : Int) > IntKind.i64.max) := by
    have : IntKind.i64.max = 9223372036854775807 := by decide
    rw [this]; omega
  simp only [if_neg h2]
theorem enter_same (args : Array Value) (W : World) : (callFunc 13 args).run Tryz.prog W = .ok (.enter 13 args) W := by
  first | kernel_rfl | simp [callFunc, go_sem, Tryz.func13]
theorem around_zero : aroundE d0.book 0 = 0 := by kernel_rfl

set_option maxRecDepth 100000 in
set_option maxHeartbeats 8000000 in
theorem walk (t : ByteArray) (who at_ : Int) (w : World) (ht : t.size ≤ maxLen) (hg : ET w) :
    Calls Tryz.prog 5 #[.string t, .int .i64 who, .int .i64 at_] w fun e w' => e = .returned (.bool true) ∧ Below w.heap.size w w' := by
  have HG : Hid (ET w) := hg
  have HTM : Hid (t.size ≤ maxLen) := ht
  clear hg
  go_enter Tryz.func5, Tryz.ntmps5
  go_wp2_with fail
  refine (new_any w).mono ?_
  rintro e w1 ⟨A, F1, rfl, hd1, hf1, hb1⟩
  have HD1 : Hid (DocAt w1 A d0 F1) := hd1
  have HB1 : Hid (Below w.heap.size w w1) := hb1
  have HF1 : Hid (∀ g, F1 g → w.heap.size ≤ g ∧ g < w1.heap.size) := fun g hg => ⟨hf1 g hg, hd1.lt g hg⟩
  clear hd1 hf1 hb1
  go_wp2_with fail
  refine (new_any w1).mono ?_
  rintro e w2 ⟨B, F2, rfl, hd2, hf2, hb2⟩
  have HD2 : Hid (DocAt w2 B d0 F2 ∧ DocAt w2 A d0 F1) := ⟨hd2, HD1.out.below hb2⟩
  have HB2 : Hid (Below w.heap.size w w2) := bel HB1.out hb2
  have HF2 : Hid (∀ g, F2 g → w1.heap.size ≤ g ∧ g < w2.heap.size) := fun g hg => ⟨hf2 g hg, hd2.lt g hg⟩
  have HZ2 : Hid (w1.heap.size ≤ w2.heap.size) := hb2.size
  have CI := insert_any A d0 F1 who 0 t w2 HD2.out.2 ht
  clear hd2 hf2 hb2 HD1 ht
  by_cases hx0 : insE d0 who 0 t = 0
  case neg =>
    obtain ⟨ez, hez⟩ : ∃ ez, ez = insE d0 who 0 t := ⟨_, rfl⟩
    rw [← hez] at CI hx0
    have HX0 : Hid (ez ≠ 0) := hx0
    have HE8 : Hid (1 ≤ who → who ≤ 8 → okText t = true → t.size ≤ 60 → ez = 8) := fun a1 a8 a2 a3 => by
      rcases ins_8 inv_zero a1 a8 (textE_zero.2 ⟨by omega, a2⟩) around_zero with e | e
      · exact absurd (hez.trans e) hx0
      · exact hez.trans e
    clear hez hx0
    go_wp2_with fail
    refine CI.mono ?_
    rintro e w3 ⟨v3, he, _, hv3, hb3⟩
    have := hv3 HX0.out
    subst this
    rw [errV_ne HX0.out] at he
    subst he
    have HB3 : Hid (Below w.heap.size w w3) := bel HB2.out hb3
    have CP := fun W => plain_any t W HTM.out
    clear CI hv3 hb3
    by_cases h1 : who < 1
    · go_wp2_with fail
      go_ret
      exact ⟨rfl, HB3.out⟩
    by_cases h8 : 8 < who
    · go_wp2_with fail
      go_ret
      exact ⟨rfl, HB3.out⟩
    cases hok : okText t with
    | false =>
      rw [hok] at CP
      go_wp2_with (go_at_call 34; refine (CP _).mono ?_; rintro e w' ⟨rfl, hw⟩; have hw2 := hw.symm; subst hw2; clear hw)
      go_ret
      exact ⟨rfl, HB3.out⟩
    | true =>
      rw [hok] at CP
      by_cases hsz : 60 < t.size
      · have hszz : (60 : Int) < t.size := by omega
        go_wp2_with (go_at_call 34; refine (CP _).mono ?_; rintro e w' ⟨rfl, hw⟩; have hw2 := hw.symm; subst hw2; clear hw)
        go_ret
        exact ⟨rfl, HB3.out⟩
      · have hszz : ¬ (60 : Int) < t.size := by omega
        have e8 : ez = 8 := HE8.out (by omega) (by omega) hok (by omega)
        subst e8
        have CE := Kl.same_err 8 8 w3 (Kl.ET.below HG.out HB3.out)
        clear hok HE8
        go_wp2_with (go_at_call 34; refine (CP _).mono ?_; rintro e w' ⟨rfl, hw⟩; have hw2 := hw.symm; subst hw2; clear hw)
        refine CE.mono ?_
        rintro e w4 ⟨rfl, hb4⟩
        have HB4 : Hid (Below w.heap.size w w4) := bel HB3.out hb4
        clear CE hb4
        go_wp2_with fail
        go_ret
        exact ⟨rfl, HB4.out⟩
  case pos =>
  have HOX : Hid (InsOk d0 who 0 t) := insE_zero.1 hx0
  have HX0 : Hid (insE d0 who 0 t = 0) := hx0
  have HXM : Hid (∀ x ∈ insL d0 who 0 t, x.2.2.1.size ≤ maxLen) := ops_max inv_zero hx0
  have hw1 : ¬ who < 1 := by have := HOX.out.who1; omega
  have hw8 : ¬ 8 < who := by have := HOX.out.who8; omega
  rw [hx0] at CI
  clear hx0
  go_wp2_with fail
  refine CI.mono ?_
  rintro e w3 ⟨v3, he, hv3, _, hb3⟩
  rw [errV_zero] at he
  subst he
  have hv3 := hv3 rfl
  obtain ⟨p3, n3, c3, rfl⟩ := new_shape hv3
  have HXG : Hid (OpsG (fun g => w2.heap.size ≤ g ∧ g < w3.heap.size) w3 (.slice p3 n3 c3) (insL d0 who 0 t)) := OpsG.new hv3
  have HB3 : Hid (Below w.heap.size w w3) := bel HB2.out hb3
  have HD3 : Hid (DocAt w3 B d0 F2 ∧ DocAt w3 A d0 F1) := ⟨HD2.out.1.below hb3, HD2.out.2.below hb3⟩
  clear CI hv3 hb3 HD2
  by_cases hsz : 60 < t.size
  · have hszz : (60 : Int) < t.size := by omega
    have CP := fun W => plain_any t W HTM.out
    rw [HOX.out.lets] at CP
    go_wp2_with (go_at_call 34; refine (CP _).mono ?_; rintro e w' ⟨rfl, hw⟩; have hw2 := hw.symm; subst hw2; clear hw)
    go_ret
    exact ⟨rfl, HB3.out⟩
  have hszz : ¬ (60 : Int) < t.size := by omega
  have hs60 : t.size ≤ 60 := by omega
  obtain ⟨hr0, hty⟩ := once_typ hs60 HX0.out
  have HR0 : Hid (runE d0 (insL d0 who 0 t) = 0) := hr0
  have HTY : Hid (Typ (runS d0 (insL d0 who 0 t)) t t.size) := hty
  have CD := do_any A d0 F1 _ _ (insL d0 who 0 t) w3 HD3.out.2 HXG.out (fun g hg => ⟨hg.2, fun e => by have := (HF1.out g e).2; have := HZ2.out; have := hg.1; omega⟩) HXM.out
  clear hsz hr0 hty
  go_wp2_with fail
  refine CD.mono ?_
  rintro e w4 ⟨he, F4, hd4, hc4, hf4⟩
  rw [HR0.out, errV_zero] at he
  subst he
  have HDA : Hid (DocAt w4 A (runS d0 (insL d0 who 0 t)) F4) := hd4
  have HDB : Hid (DocAt w4 B d0 F2) := HD3.out.1.chg hc4 (fun g h1 h2 => by have := (HF1.out g h2).2; have := (HF2.out g h1).1; omega)
  have HB4 : Hid (Below w.heap.size w w4) := hc4.below (fun g hg => (HF1.out g hg).1) HB3.out HB3.out.size
  have HFA : Hid (∀ g, F4 g → w.heap.size ≤ g) := fun g hg => by
    rcases hf4 g hg with e | e
    · exact (HF1.out g e).1
    · exact Nat.le_trans HB3.out.size e
  have HFB : Hid (∀ g, F2 g → w.heap.size ≤ g) := fun g hg => Nat.le_trans HB1.out.size (HF2.out g hg).1
  have HAB : Hid (∀ g, F4 g → ¬ F2 g) := fun g h1 h2 => by
    rcases hf4 g h1 with e | e
    · have := (HF1.out g e).2; have := (HF2.out g h2).1; omega
    · have := HD3.out.1.lt g h2; omega
  obtain ⟨S, hS⟩ : ∃ S, S = runS d0 (insL d0 who 0 t) := ⟨_, rfl⟩
  rw [← hS] at HTY HDA
  have HWW : Hid (1 ≤ who ∧ who ≤ 8) := ⟨by omega, by omega⟩
  clear CD hd4 hc4 hf4 HF1 HF2 HXG HD3 HB3 HB2 HB1 HR0 HXM HZ2 hS HX0
  go_wp2_with fail
  go_loopw [11] (fun vi wr => ∃ (k : Nat) (T : Dq) (Fb : Nat → Prop), k ≤ t.size ∧ vi = .int .i64 k ∧ Hid (DocAt wr A S F4) ∧ Hid (DocAt wr B T Fb) ∧ Hid (Typ T t k) ∧ Hid (∀ g, Fb g → w.heap.size ≤ g) ∧ Hid (∀ g, F4 g → ¬ Fb g) ∧ Hid (Below w.heap.size w wr)) (fun vi _ => t.size - (intOf vi).toNat)
  case atStart => exact ⟨0, d0, F2, by omega, rfl, HDA, HDB, typ_zero t, HFB, HAB, HB4⟩
  case round =>
    clear HDA HDB HFB HAB HB4
    obtain ⟨k, T, Fb, hk, rfl, HDA, HDB, HTK, HFB, HAB, HB⟩ := hrel
    by_cases hlt : k < t.size
    · have hltz : (k : Int) < t.size := by omega
      have hk60 : (k : Int) ≤ 60 := by omega
      have z1 := sub1_size hlt
      have CI := insert_any B T Fb who k (sub1 t k) wr HDB.out (by rw [z1]; unfold maxLen; decide)
      have hor := typ_ins HTK.out HOX.out.lets hlt HWW.out.1 HWW.out.2
      clear z1
      rcases hor with h0 | h8
      · obtain ⟨hr1, hty⟩ := typ_next HTK.out hlt hs60 h0
        have HR1 : Hid (runE T (insL T who k (sub1 t k)) = 0) := hr1
        have HT1 : Hid (Typ (runS T (insL T who k (sub1 t k))) t (k + 1)) := hty
        have HPM : Hid (∀ x ∈ insL T who k (sub1 t k), x.2.2.1.size ≤ maxLen) := ops_max HTK.out.inv h0
        rw [h0] at CI
        unfold sub1 at CI HR1 HT1 HPM
        clear h0 hr1 hty
        go_wp2_with fail
        refine CI.mono ?_
        rintro e w7 ⟨v7, he, hv7, _, hb7⟩
        rw [errV_zero] at he
        subst he
        have hv7 := hv7 rfl
        obtain ⟨p7, n7, c7, rfl⟩ := new_shape hv7
        have HB7 : Hid (Below w.heap.size w w7) := bel HB.out hb7
        have HD7 : Hid (DocAt w7 A S F4) := HDA.out.below hb7
        have CD := do_any B T Fb _ _ _ w7 (HDB.out.below hb7) (OpsG.new hv7) (fun g hg => ⟨hg.2, fun e => by have := HDB.out.lt g e; have := hg.1; omega⟩) HPM.out
        clear CI hb7 hv7
        go_wp2_with fail
        refine CD.mono ?_
        rintro e w8 ⟨he, F8, hd8, hc8, hf8⟩
        rw [HR1.out, errV_zero] at he
        subst he
        have HD8 : Hid (DocAt w8 B _ F8) := hd8
        have HD8a : Hid (DocAt w8 A S F4) := HD7.out.chg hc8 (fun g h1 h2 => HAB.out g h1 h2)
        have HB8 : Hid (Below w.heap.size w w8) := hc8.below HFB.out HB7.out HB7.out.size
        have HF8 : Hid (∀ g, F8 g → w.heap.size ≤ g) := fun g hg => by
          rcases hf8 g hg with e | e
          · exact HFB.out g e
          · exact Nat.le_trans HB7.out.size e
        have HAB8 : Hid (∀ g, F4 g → ¬ F8 g) := fun g h1 h2 => by
          rcases hf8 g h2 with e | e
          · exact HAB.out g h1 e
          · have := HD7.out.lt g h1; omega
        clear CD hd8 hc8 hf8
        go_wp2_with fail
        go_roundw
        case rel => exact ⟨k + 1, _, F8, by omega, by go_num, HD8a, HD8, HT1, HF8, HAB8, HB8⟩
        case measure => simp [intOf]; omega
      · rw [h8] at CI
        unfold sub1 at CI
        clear h8
        go_wp2_with fail
        refine CI.mono ?_
        rintro e w7 ⟨v7, he, _, hv7, hb7⟩
        have := hv7 (by decide)
        subst this
        rw [errV_ne (by decide)] at he
        subst he
        have HB7 : Hid (Below w.heap.size w w7) := bel HB.out hb7
        have CE := Kl.same_err 8 8 w7 (Kl.ET.below HG.out HB7.out)
        clear CI hb7 hv7
        go_wp2_with fail
        refine CE.mono ?_
        rintro e w8 ⟨rfl, hb8⟩
        have HB8 : Hid (Below w.heap.size w w8) := bel HB7.out hb8
        clear CE hb8
        go_wp2_with fail
        go_ret
        exact ⟨rfl, HB8.out⟩
    · obtain rfl : k = t.size := by omega
      have hltz : ¬ (t.size : Int) < t.size := by omega
      have CT := text_get A S F4 wr HDA.out
      have HTX : Hid (Lf.textR S.book = t ∧ Lf.textR T.book = t) := by
        unfold Hid Lf.textR; rw [if_pos HTY.out.inv.book, if_pos HTK.out.inv.book]; exact ⟨typ_text HTY.out, typ_text HTK.out⟩
      rw [HTX.out.1] at CT
      go_wp2_with fail
      refine CT.mono ?_
      rintro e w7 ⟨rfl, hb7⟩
      have HB7 : Hid (Below w.heap.size w w7) := bel HB.out hb7
      have HD7 : Hid (DocAt w7 A S F4) := HDA.out.below hb7
      have CT2 := text_get B T Fb w7 (HDB.out.below hb7)
      rw [HTX.out.2] at CT2
      clear CT hb7
      go_wp2_with fail
      refine CT2.mono ?_
      rintro e w8 ⟨rfl, hb8⟩
      have HB8 : Hid (Below w.heap.size w w8) := bel HB7.out hb8
      have HD8 : Hid (DocAt w8 A S F4) := HD7.out.below hb8
      have CI := insert_any A S F4 who at_ dash w8 HD8.out (by unfold maxLen; decide)
      clear CT2 hb8 HDB HTK HFB HAB HD7 HB7 HDA HB
      by_cases hat : 0 ≤ at_ ∧ at_ ≤ t.size
      case neg =>
        have he1 : insE S who at_ dash = 1 := by
          unfold insE
          rw [isWho_iff.2 HWW.out, if_neg (by simp), if_neg (by rw [dash_ok]; simp), if_pos]
          intro e
          have := aroundE_zero.1 e
          rw [typ_seen HTY.out (Nat.le_refl _)] at this
          exact hat this
        rw [he1] at CI
        have hor : at_ < 0 ∨ (¬ at_ < 0 ∧ (t.size : Int) < at_) := by omega
        clear he1 hat
        rcases hor with hx1 | ⟨hx1, hx2⟩
        all_goals
          go_wp2_with fail
          refine CI.mono ?_
          rintro e w9 ⟨v9, he, _, hv9, hb9⟩
          have := hv9 (by decide)
          subst this
          rw [errV_ne (by decide)] at he
          subst he
          have HB9 : Hid (Below w.heap.size w w9) := bel HB8.out hb9
          have CE := Kl.same_err 1 1 w9 (Kl.ET.below HG.out HB9.out)
          clear CI hb9 hv9
          go_wp2_with fail
          refine CE.mono ?_
          rintro e w10 ⟨rfl, hb10⟩
          have HB10 : Hid (Below w.heap.size w w10) := bel HB9.out hb10
          clear CE hb10
          go_wp2_with fail
          go_ret
          exact ⟨rfl, HB10.out⟩
      case pos =>
        obtain ⟨ha0, ha1⟩ := hat
        obtain ⟨a, rfl⟩ : ∃ a : Nat, at_ = a := ⟨at_.toNat, by omega⟩
        have hat : a ≤ t.size := by omega
        have hn0 : ¬ (a : Int) < 0 := by omega
        have hn1 : ¬ (t.size : Int) < a := by omega
        rcases ins_8 HTY.out.inv HWW.out.1 HWW.out.2 dash_ok (aroundE_zero.2 ⟨ha0, by rw [typ_seen HTY.out (Nat.le_refl _)]; exact ha1⟩) with h0 | h8
        · obtain ⟨hr1, htx⟩ := dash_run HTY.out hs60 h0
          have HR1 : Hid (runE S (insL S who a dash) = 0) := hr1
          have HPM : Hid (∀ x ∈ insL S who a dash, x.2.2.1.size ≤ maxLen) := ops_max HTY.out.inv h0
          have HTD : Hid (Lf.textR (runS S (insL S who a dash)).book = t.extract 0 a ++ ⟨#[45]⟩ ++ t.extract a t.size) := by
            unfold Hid Lf.textR
            rw [if_pos (run_inv _ HTY.out.inv).book, htx, Int.toNat_natCast]
            apply mk_eq
            rw [toList_mk, toList_app, toList_app, list_extract, list_rest, List.drop_zero]
            rw [show (⟨#[45]⟩ : ByteArray).toList = [45] from toList_mk [45]]
          have hes : (t.extract 0 a).size ≤ 60 := by rw [size_extract t 0 a hat]; omega
          have hes2 : (t.extract a t.size).size ≤ 60 := by rw [size_extract t a t.size (Nat.le_refl _)]; omega
          have hadd1 : Op.stringOp .add (t.extract 0 a) ⟨#[45]⟩ = (pure (.string (t.extract 0 a ++ ⟨#[45]⟩)) : Sem Value) := str_add (by have : (⟨#[45]⟩ : ByteArray).size = 1 := rfl; omega)
          have hadd2 : Op.stringOp .add (t.extract 0 a ++ ⟨#[45]⟩) (t.extract a t.size) = (pure (.string (t.extract 0 a ++ ⟨#[45]⟩ ++ t.extract a t.size)) : Sem Value) := str_add (by have e9 : (t.extract 0 a ++ (⟨#[45]⟩ : ByteArray)).size = (t.extract 0 a).size + 1 := (by rw [ByteArray.size_append]; rfl); omega)
          rw [h0] at CI
          clear h0 hr1 htx
          go_wp2_with fail
          refine CI.mono ?_
          rintro e w9 ⟨v9, he, hv9, _, hb9⟩
          rw [errV_zero] at he
          subst he
          have hv9 := hv9 rfl
          obtain ⟨p9, n9, c9, rfl⟩ := new_shape hv9
          have HB9 : Hid (Below w.heap.size w w9) := bel HB8.out hb9
          have HD9 : Hid (DocAt w9 A S F4) := HD8.out.below hb9
          have CD : Hid (∀ W, Below w9.heap.size w9 W → Calls Tryz.prog 33 #[.pointer (some ⟨A, 0, none⟩), .slice p9 n9 c9] W (DoPost W A S F4 (insL S who a dash))) := fun W hW => do_any A S F4 (fun g => w8.heap.size ≤ g ∧ g < w9.heap.size) _ _ W (HD9.out.below hW) ((OpsG.new hv9).stay fun g hg => hW.block g hg.2) (fun g hg => ⟨Nat.lt_of_lt_of_le hg.2 hW.size, fun e => by have := HD8.out.lt g e; have := hg.1; omega⟩) HPM.out
          clear CI hb9 hv9
          go_wp2_with fail
          go_region_held3 (fun _ => True) (exact True.intro) (first
            | (go_at_call 13; refine (Kl.same_nil 8 _).mono ?_; rintro e w10 ⟨rfl, hw⟩; have hw2 := hw.symm; subst hw2; clear hw)
            | (go_at_call 33; refine (CD.out _ (Below.refl _ w9).drew).mono ?_; rintro e w11 ⟨he, F11, hd11, hc11, hf11⟩; rw [HR1.out, errV_zero] at he; subst he; have HD11 : Hid (DocAt w11 A (runS S (insL S who a dash)) F11) := hd11; have HB11 : Hid (Below w.heap.size w w11) := hc11.below HFA.out HB9.out.drew HB9.out.size; clear hd11 hc11 hf11)
            | (go_at_call 22; refine (text_get A _ F11 _ HD11.out).mono ?_; rintro e w12 ⟨rfl, hb12⟩; have HB12 : Hid (Below w.heap.size w w12) := bel HB11.out hb12; rw [HTD.out]; clear hb12))
          all_goals
            go_wp2_with fail
            go_ret
            exact ⟨rfl, HB12.out⟩
        · rw [h8] at CI
          clear h8
          go_wp2_with fail
          refine CI.mono ?_
          rintro e w9 ⟨v9, he, _, hv9, hb9⟩
          have := hv9 (by decide)
          subst this
          rw [errV_ne (by decide)] at he
          subst he
          have HB9 : Hid (Below w.heap.size w w9) := bel HB8.out hb9
          have CE : Hid (∀ q : Nat, Calls Tryz.prog 13 #[.iface 105 (.int .i64 8), .int .i64 8] w9.drew fun e w' => e = .returned (.bool true) ∧ Below w9.drew.heap.size w9.drew w') := fun _ => (Kl.same_err 8 8 w9.drew (Kl.ET.below HG.out HB9.out.drew)).mono fun e w' h => ⟨h.1, h.2⟩
          clear CI hb9 hv9
          go_wp2_with fail
          refine wp_region_held_drew (S := fun _ => True) (by kernel_rfl) True.intro (fun _ => ?_)
          refine wpAnyH_take (i := 0) (oi := { dst := some 108, op := Op.move (Operand.tmp 10), type := 35, pos := "law.go:230", after := #[], guard := none }) (v := .iface 105 (.int .i64 8)) rfl (by kernel_rfl) (by kernel_rfl) (by kernel_rfl) (fun _ _ _ h => h) (Or.inl ⟨by kernel_rfl, by (intro W hW; go_simp)⟩) True.intro ?_
          try simp only [Act.put, List.setIfInBounds_toArray, List.set_cons_zero, List.set_cons_succ]
          refine wpAnyH_ready (rs := [1]) (by kernel_rfl) (by simp) ?_
          refine AllReadyH.cons (o := { dst := some 109, op := Op.call { callee := Callee.value (Operand.func 13), args := #[Operand.tmp 108, Operand.const (Value.int IntKind.i64 8)], argTypes := #[35, 3] }, type := 4, pos := "law.go:230", after := #[{ on := 0, ground := Ground.data }], guard := none }) rfl (fun K hK => ?_) AllReadyH.nil
          refine step_call2 (R := fun v w' => v = .bool true ∧ Below w9.drew.heap.size w9.drew w') rfl 13 (.tmp 108) (.const (.int .i64 8)) _ _ rfl (.iface 105 (.int .i64 8)) (.int .i64 8) rfl rfl enter_same ((CE.out 0).mono fun e w' h9 => ⟨_, h9.1, rfl, h9.2⟩) ?_
          rintro v10 w10 ⟨rfl, hb10⟩
          have HB10 : Hid (Below w.heap.size w w10) := bel HB9.out.drew hb10
          refine hK _ _ True.intro (fun _ => ?_)
          try simp only [Act.put, List.setIfInBounds_toArray, List.set_cons_zero, List.set_cons_succ]
          refine wpAnyH_take (i := 2) (oi := { dst := some 110, op := Op.move (Operand.tmp 109), type := 4, pos := "law.go:230", after := #[{ on := 1, ground := Ground.data }, { on := 1, ground := Ground.chain }], guard := none }) (v := .bool true) rfl (by kernel_rfl) (by kernel_rfl) (by kernel_rfl) (fun _ _ _ h => h) (Or.inl ⟨by kernel_rfl, by (intro W hW; go_simp)⟩) True.intro ?_
          try simp only [Act.put, List.setIfInBounds_toArray, List.set_cons_zero, List.set_cons_succ]
          refine wpAnyH_take (i := 3) (oi := { dst := some 111, op := Op.move (Operand.tmp 10), type := 35, pos := "law.go:230", after := #[{ on := 2, ground := Ground.guard }], guard := some (2, false) }) (v := undef) rfl (by kernel_rfl) (by kernel_rfl) (by kernel_rfl) (fun _ _ _ h => h) (Or.inr ⟨by kernel_rfl, rfl⟩) True.intro ?_
          try simp only [Act.put, List.setIfInBounds_toArray, List.set_cons_zero, List.set_cons_succ]
          refine wpAnyH_take (i := 4) (oi := { dst := some 112, op := Op.binOp BinOp.eql 35 (Operand.tmp 111) (Operand.const Value.nilIface) 35, type := 4, pos := "law.go:230", after := #[{ on := 3, ground := Ground.data }, { on := 2, ground := Ground.guard }], guard := some (2, false) }) (v := undef) rfl (by kernel_rfl) (by kernel_rfl) (by kernel_rfl) (fun _ _ _ h => h) (Or.inr ⟨by kernel_rfl, rfl⟩) True.intro ?_
          try simp only [Act.put, List.setIfInBounds_toArray, List.set_cons_zero, List.set_cons_succ]
          refine wpAnyH_take (i := 5) (oi := { dst := some 113, op := Op.move (Operand.tmp 112), type := 4, pos := "law.go:230", after := #[{ on := 4, ground := Ground.data }, { on := 2, ground := Ground.chain }, { on := 2, ground := Ground.guard }], guard := some (2, false) }) (v := undef) rfl (by kernel_rfl) (by kernel_rfl) (by kernel_rfl) (fun _ _ _ h => h) (Or.inr ⟨by kernel_rfl, rfl⟩) True.intro ?_
          try simp only [Act.put, List.setIfInBounds_toArray, List.set_cons_zero, List.set_cons_succ]
          refine wpAnyH_take (i := 6) (oi := { dst := some 114, op := Op.move (Operand.tmp 7), type := 23, pos := "law.go:230", after := #[{ on := 5, ground := Ground.guard }], guard := some (5, true) }) (v := undef) rfl (by kernel_rfl) (by kernel_rfl) (by kernel_rfl) (fun _ _ _ h => h) (Or.inr ⟨by kernel_rfl, rfl⟩) True.intro ?_
          try simp only [Act.put, List.setIfInBounds_toArray, List.set_cons_zero, List.set_cons_succ]
          refine wpAnyH_take (i := 7) (oi := { dst := some 115, op := Op.move (Operand.tmp 14), type := 22, pos := "law.go:230", after := #[{ on := 5, ground := Ground.guard }], guard := some (5, true) }) (v := undef) rfl (by kernel_rfl) (by kernel_rfl) (by kernel_rfl) (fun _ _ _ h => h) (Or.inr ⟨by kernel_rfl, rfl⟩) True.intro ?_
          try simp only [Act.put, List.setIfInBounds_toArray, List.set_cons_zero, List.set_cons_succ]
          refine wpAnyH_take (i := 8) (oi := { dst := some 116, op := Op.call { callee := Callee.value (Operand.func 33), args := #[Operand.tmp 114, Operand.tmp 115], argTypes := #[23, 22] }, type := 35, pos := "law.go:230", after := #[{ on := 6, ground := Ground.data }, { on := 7, ground := Ground.data }, { on := 5, ground := Ground.chain }, { on := 5, ground := Ground.guard }], guard := some (5, true) }) (v := undef) rfl (by kernel_rfl) (by kernel_rfl) (by kernel_rfl) (fun _ _ _ h => h) (Or.inr ⟨by kernel_rfl, rfl⟩) True.intro ?_
          try simp only [Act.put, List.setIfInBounds_toArray, List.set_cons_zero, List.set_cons_succ]
          refine wpAnyH_take (i := 9) (oi := { dst := some 117, op := Op.binOp BinOp.eql 35 (Operand.tmp 116) (Operand.const Value.nilIface) 35, type := 4, pos := "law.go:230", after := #[{ on := 8, ground := Ground.data }, { on := 5, ground := Ground.guard }], guard := some (5, true) }) (v := undef) rfl (by kernel_rfl) (by kernel_rfl) (by kernel_rfl) (fun _ _ _ h => h) (Or.inr ⟨by kernel_rfl, rfl⟩) True.intro ?_
          try simp only [Act.put, List.setIfInBounds_toArray, List.set_cons_zero, List.set_cons_succ]
          refine wpAnyH_take (i := 10) (oi := { dst := some 118, op := Op.pick (Operand.tmp 113) (Operand.tmp 117) (Operand.const (Value.bool false)), type := 4, pos := "law.go:230", after := #[{ on := 5, ground := Ground.data }, { on := 9, ground := Ground.data }, { on := 2, ground := Ground.guard }], guard := some (2, false) }) (v := undef) rfl (by kernel_rfl) (by kernel_rfl) (by kernel_rfl) (fun _ _ _ h => h) (Or.inr ⟨by kernel_rfl, rfl⟩) True.intro ?_
          try simp only [Act.put, List.setIfInBounds_toArray, List.set_cons_zero, List.set_cons_succ]
          refine wpAnyH_take (i := 11) (oi := { dst := some 119, op := Op.move (Operand.tmp 118), type := 4, pos := "law.go:230", after := #[{ on := 10, ground := Ground.data }, { on := 8, ground := Ground.chain }, { on := 2, ground := Ground.guard }], guard := some (2, false) }) (v := undef) rfl (by kernel_rfl) (by kernel_rfl) (by kernel_rfl) (fun _ _ _ h => h) (Or.inr ⟨by kernel_rfl, rfl⟩) True.intro ?_
          try simp only [Act.put, List.setIfInBounds_toArray, List.set_cons_zero, List.set_cons_succ]
          refine wpAnyH_take (i := 12) (oi := { dst := some 120, op := Op.move (Operand.tmp 7), type := 23, pos := "law.go:230", after := #[{ on := 11, ground := Ground.guard }], guard := some (11, true) }) (v := undef) rfl (by kernel_rfl) (by kernel_rfl) (by kernel_rfl) (fun _ _ _ h => h) (Or.inr ⟨by kernel_rfl, rfl⟩) True.intro ?_
          try simp only [Act.put, List.setIfInBounds_toArray, List.set_cons_zero, List.set_cons_succ]
          refine wpAnyH_take (i := 13) (oi := { dst := some 121, op := Op.call { callee := Callee.value (Operand.func 22), args := #[Operand.tmp 120], argTypes := #[23] }, type := 9, pos := "law.go:230", after := #[{ on := 12, ground := Ground.data }, { on := 11, ground := Ground.chain }, { on := 11, ground := Ground.guard }], guard := some (11, true) }) (v := undef) rfl (by kernel_rfl) (by kernel_rfl) (by kernel_rfl) (fun _ _ _ h => h) (Or.inr ⟨by kernel_rfl, rfl⟩) True.intro ?_
          try simp only [Act.put, List.setIfInBounds_toArray, List.set_cons_zero, List.set_cons_succ]
          refine wpAnyH_take (i := 14) (oi := { dst := some 122, op := Op.move (Operand.tmp 0), type := 9, pos := "law.go:230", after := #[{ on := 11, ground := Ground.guard }], guard := some (11, true) }) (v := undef) rfl (by kernel_rfl) (by kernel_rfl) (by kernel_rfl) (fun _ _ _ h => h) (Or.inr ⟨by kernel_rfl, rfl⟩) True.intro ?_
          try simp only [Act.put, List.setIfInBounds_toArray, List.set_cons_zero, List.set_cons_succ]
          refine wpAnyH_take (i := 15) (oi := { dst := some 123, op := Op.move (Operand.tmp 2), type := 3, pos := "law.go:230", after := #[{ on := 11, ground := Ground.guard }], guard := some (11, true) }) (v := undef) rfl (by kernel_rfl) (by kernel_rfl) (by kernel_rfl) (fun _ _ _ h => h) (Or.inr ⟨by kernel_rfl, rfl⟩) True.intro ?_
          try simp only [Act.put, List.setIfInBounds_toArray, List.set_cons_zero, List.set_cons_succ]
          refine wpAnyH_take (i := 16) (oi := { dst := some 124, op := Op.slice 9 (Operand.tmp 122) none (some (Operand.tmp 123)) none, type := 9, pos := "law.go:230", after := #[{ on := 14, ground := Ground.data }, { on := 15, ground := Ground.data }, { on := 11, ground := Ground.guard }], guard := some (11, true) }) (v := undef) rfl (by kernel_rfl) (by kernel_rfl) (by kernel_rfl) (fun _ _ _ h => h) (Or.inr ⟨by kernel_rfl, rfl⟩) True.intro ?_
          try simp only [Act.put, List.setIfInBounds_toArray, List.set_cons_zero, List.set_cons_succ]
          refine wpAnyH_take (i := 17) (oi := { dst := some 125, op := Op.binOp BinOp.add 9 (Operand.tmp 124) (Operand.const (Value.string { data := #[45] })) 9, type := 9, pos := "law.go:230", after := #[{ on := 16, ground := Ground.data }, { on := 11, ground := Ground.guard }], guard := some (11, true) }) (v := undef) rfl (by kernel_rfl) (by kernel_rfl) (by kernel_rfl) (fun _ _ _ h => h) (Or.inr ⟨by kernel_rfl, rfl⟩) True.intro ?_
          try simp only [Act.put, List.setIfInBounds_toArray, List.set_cons_zero, List.set_cons_succ]
          refine wpAnyH_take (i := 18) (oi := { dst := some 126, op := Op.move (Operand.tmp 0), type := 9, pos := "law.go:230", after := #[{ on := 11, ground := Ground.guard }], guard := some (11, true) }) (v := undef) rfl (by kernel_rfl) (by kernel_rfl) (by kernel_rfl) (fun _ _ _ h => h) (Or.inr ⟨by kernel_rfl, rfl⟩) True.intro ?_
          try simp only [Act.put, List.setIfInBounds_toArray, List.set_cons_zero, List.set_cons_succ]
          refine wpAnyH_take (i := 19) (oi := { dst := some 127, op := Op.move (Operand.tmp 2), type := 3, pos := "law.go:230", after := #[{ on := 11, ground := Ground.guard }], guard := some (11, true) }) (v := undef) rfl (by kernel_rfl) (by kernel_rfl) (by kernel_rfl) (fun _ _ _ h => h) (Or.inr ⟨by kernel_rfl, rfl⟩) True.intro ?_
          try simp only [Act.put, List.setIfInBounds_toArray, List.set_cons_zero, List.set_cons_succ]
          refine wpAnyH_take (i := 20) (oi := { dst := some 128, op := Op.slice 9 (Operand.tmp 126) (some (Operand.tmp 127)) none none, type := 9, pos := "law.go:230", after := #[{ on := 18, ground := Ground.data }, { on := 19, ground := Ground.data }, { on := 11, ground := Ground.guard }], guard := some (11, true) }) (v := undef) rfl (by kernel_rfl) (by kernel_rfl) (by kernel_rfl) (fun _ _ _ h => h) (Or.inr ⟨by kernel_rfl, rfl⟩) True.intro ?_
          try simp only [Act.put, List.setIfInBounds_toArray, List.set_cons_zero, List.set_cons_succ]
          refine wpAnyH_take (i := 21) (oi := { dst := some 129, op := Op.binOp BinOp.add 9 (Operand.tmp 125) (Operand.tmp 128) 9, type := 9, pos := "law.go:230", after := #[{ on := 17, ground := Ground.data }, { on := 20, ground := Ground.data }, { on := 11, ground := Ground.guard }], guard := some (11, true) }) (v := undef) rfl (by kernel_rfl) (by kernel_rfl) (by kernel_rfl) (fun _ _ _ h => h) (Or.inr ⟨by kernel_rfl, rfl⟩) True.intro ?_
          try simp only [Act.put, List.setIfInBounds_toArray, List.set_cons_zero, List.set_cons_succ]
          refine wpAnyH_take (i := 22) (oi := { dst := some 130, op := Op.binOp BinOp.eql 9 (Operand.tmp 121) (Operand.tmp 129) 9, type := 4, pos := "law.go:230", after := #[{ on := 13, ground := Ground.data }, { on := 21, ground := Ground.data }, { on := 11, ground := Ground.guard }], guard := some (11, true) }) (v := undef) rfl (by kernel_rfl) (by kernel_rfl) (by kernel_rfl) (fun _ _ _ h => h) (Or.inr ⟨by kernel_rfl, rfl⟩) True.intro ?_
          try simp only [Act.put, List.setIfInBounds_toArray, List.set_cons_zero, List.set_cons_succ]
          refine wpAnyH_take (i := 23) (oi := { dst := some 131, op := Op.pick (Operand.tmp 119) (Operand.tmp 130) (Operand.const (Value.bool false)), type := 4, pos := "law.go:230", after := #[{ on := 11, ground := Ground.data }, { on := 22, ground := Ground.data }, { on := 2, ground := Ground.guard }], guard := some (2, false) }) (v := undef) rfl (by kernel_rfl) (by kernel_rfl) (by kernel_rfl) (fun _ _ _ h => h) (Or.inr ⟨by kernel_rfl, rfl⟩) True.intro ?_
          try simp only [Act.put, List.setIfInBounds_toArray, List.set_cons_zero, List.set_cons_succ]
          refine wpAnyH_take (i := 24) (oi := { dst := some 132, op := Op.pick (Operand.tmp 110) (Operand.const (Value.bool true)) (Operand.tmp 131), type := 4, pos := "law.go:230", after := #[{ on := 2, ground := Ground.data }, { on := 23, ground := Ground.data }], guard := none }) (v := .bool true) rfl (by kernel_rfl) (by kernel_rfl) (by kernel_rfl) (fun _ _ _ h => h) (Or.inl ⟨by kernel_rfl, by (intro W hW; go_simp)⟩) True.intro ?_
          try simp only [Act.put, List.setIfInBounds_toArray, List.set_cons_zero, List.set_cons_succ]
          refine wpAnyH_take (i := 25) (oi := { dst := some 6, op := Op.assign (Operand.tmp 132), type := 4, pos := "law.go:230", after := #[{ on := 24, ground := Ground.data }, { on := 13, ground := Ground.chain }, { on := 0, ground := Ground.phase }, { on := 1, ground := Ground.phase }, { on := 2, ground := Ground.phase }, { on := 3, ground := Ground.phase }, { on := 4, ground := Ground.phase }, { on := 5, ground := Ground.phase }, { on := 6, ground := Ground.phase }, { on := 7, ground := Ground.phase }, { on := 8, ground := Ground.phase }, { on := 9, ground := Ground.phase }, { on := 10, ground := Ground.phase }, { on := 11, ground := Ground.phase }, { on := 12, ground := Ground.phase }, { on := 13, ground := Ground.phase }, { on := 14, ground := Ground.phase }, { on := 15, ground := Ground.phase }, { on := 16, ground := Ground.phase }, { on := 17, ground := Ground.phase }, { on := 18, ground := Ground.phase }, { on := 19, ground := Ground.phase }, { on := 20, ground := Ground.phase }, { on := 21, ground := Ground.phase }, { on := 22, ground := Ground.phase }, { on := 23, ground := Ground.phase }, { on := 24, ground := Ground.phase }], guard := none }) (v := .bool true) rfl (by kernel_rfl) (by kernel_rfl) (by kernel_rfl) (fun _ _ _ h => h) (Or.inl ⟨by kernel_rfl, by (intro W hW; go_simp)⟩) True.intro ?_
          try simp only [Act.put, List.setIfInBounds_toArray, List.set_cons_zero, List.set_cons_succ]
          refine wpAnyH_done (by kernel_rfl) ?_ _
          all_goals
            go_wp2_with fail
            go_ret
            exact ⟨rfl, HB10.out⟩

end Up
end Go.Proofs.YtnniggjeadlbgaaGreatDoor
