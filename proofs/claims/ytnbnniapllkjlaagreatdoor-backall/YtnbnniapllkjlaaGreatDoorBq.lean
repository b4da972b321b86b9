/- The walk of BackAll. -/
import Derived.Test.YtnbnniapllkjlaaGreatDoorBl
import Derived.Test.YtnbnniapllkjlaaGreatDoorBp
import Derived.Test.YtnbnniapllkjlaaGreatDoorU2
import Derived.Test.YtnbnniapllkjlaaGreatDoorJ14
import Derived.Deep.RegionHeld3
namespace Go.Proofs.YtnbnniapllkjlaaGreatDoor
namespace Bq
set_option linter.unusedVariables false
set_option linter.unusedSimpArgs false
open Go.ChangeShapes Go.WideShapes Go.ChangeAt Go.RowKit Cm Ka Kb Na Om Oa Oz Oc Og Oi Hm Ia Ic Ie Im Il Um Ua Ub Uc Ud Ue Bf Bp Ac
open Bl (UnPost undo_any)
open La (bel bel_drew errV_zero errV_ne own_below)
open Kt (ET)

theorem new_shape {B : Nat} {w : World} {v : Value} {l : List Ox} (h : OpsNew B w v l) : ∃ p n c, v = .slice p n c := by
  obtain ⟨g, L, e, _⟩ := h; exact ⟨_, _, _, e⟩
theorem ops_max {S : Dq} {who off : Int} {t : ByteArray} (I : Inv S) (h : insE S who off t = 0) : ∀ x ∈ insL S who off t, x.2.2.1.size ≤ maxLen := fun x hx => by
  have := small_ops I.book (insE_zero.1 h) x hx
  unfold maxLen; omega
theorem opsG_J {R : Nat → Prop} {w : World} {v : Value} {l : List Ox} (h : OpsJ R R w v l) : OpsG R w v l := by
  obtain ⟨p, c, h1, h2, h3⟩ := h
  exact ⟨p, c, h1, h2, h3⟩
theorem ext_list (t : ByteArray) (k : Nat) (hk : k ≤ t.size) : (t.extract 0 k).toList = t.toList.take k := by rw [Oi.list_extract, List.drop_zero]

set_option maxRecDepth 100000 in
set_option maxHeartbeats 8000000 in
theorem walk (t : ByteArray) (n : Int) (w : World) (ht : t.size ≤ maxLen) (hg : ET w) :
    Calls Tryz.prog 4 #[.string t, .int .i64 n] w fun e w' => e = .returned (.bool true) ∧ Below w.heap.size w w' := by
  have HG : Hid (ET w) := hg
  have htz : (t.size : Int) ≤ 9223372036854775807 := by unfold maxLen at ht; omega
  have HTM : Hid (t.size ≤ maxLen) := ht
  clear hg
  go_enter Tryz.func4, Tryz.ntmps4
  go_wp2_with fail
  refine (new_any w).mono ?_
  rintro e w1 ⟨A, F1, rfl, hd1, hf1, hb1⟩
  have HD1 : Hid (DocAt w1 A d0 F1) := hd1
  have HB1 : Hid (Below w.heap.size w w1) := hb1
  have HF1 : Hid (∀ g, F1 g → w.heap.size ≤ g ∧ g < w1.heap.size) := fun g hg => ⟨hf1 g hg, hd1.lt g hg⟩
  have CI := insert_any A d0 F1 1 0 t w1 hd1 ht
  clear hd1 hf1 hb1 ht
  by_cases hx0 : insE d0 1 0 t = 0
  case neg =>
    obtain ⟨ez, hez⟩ : ∃ ez, ez = insE d0 1 0 t := ⟨_, rfl⟩
    rw [← hez] at CI hx0
    have HX0 : Hid (ez ≠ 0) := hx0
    clear hez hx0
    go_wp2_with fail
    refine CI.mono ?_
    rintro e w3 ⟨v3, he, _, hv3, hb3⟩
    have := hv3 HX0.out
    subst this
    rw [errV_ne HX0.out] at he
    subst he
    have HB3 : Hid (Below w.heap.size w w3) := bel HB1.out hb3
    clear CI hv3 hb3
    go_wp2_with fail
    go_ret
    exact ⟨rfl, HB3.out⟩
  case pos =>
  have HX0 : Hid (insE d0 1 0 t = 0) := hx0
  have HXM : Hid (∀ x ∈ insL d0 1 0 t, x.2.2.1.size ≤ maxLen) := ops_max inv_zero hx0
  rw [hx0] at CI
  clear hx0
  go_wp2_with fail
  refine CI.mono ?_
  rintro e w3 ⟨v3, he, hv3, _, hb3⟩
  rw [errV_zero] at he
  subst he
  have hv3 := hv3 rfl
  obtain ⟨p3, n3, c3, rfl⟩ := new_shape hv3
  have HXG : Hid (OpsG (fun g => w1.heap.size ≤ g ∧ g < w3.heap.size) w3 (.slice p3 n3 c3) (insL d0 1 0 t)) := OpsG.new hv3
  have HB3 : Hid (Below w.heap.size w w3) := bel HB1.out hb3
  have HD3 : Hid (DocAt w3 A d0 F1) := HD1.out.below hb3
  clear CI hv3 hb3 HD1
  by_cases hsz : 60 < t.size
  · have hszz : (60 : Int) < t.size := by omega
    go_wp2_with fail
    go_ret
    exact ⟨rfl, HB3.out⟩
  have hszz : ¬ (60 : Int) < t.size := by omega
  have hs60 : t.size ≤ 60 := by omega
  have HR0 : Hid (runE d0 (insL d0 1 0 t) = 0) := (wrote_ins inv_zero (insE_zero.1 HX0.out) (by show 0 + t.size ≤ 300; omega) (by show 0 + t.size ≤ 400; omega)).1
  have CD := do_any A d0 F1 _ _ (insL d0 1 0 t) w3 HD3.out HXG.out (fun g hg => ⟨hg.2, fun e => by have := (HF1.out g e).2; have := hg.1; omega⟩) HXM.out
  clear hsz
  go_wp2_with fail
  refine CD.mono ?_
  rintro e w4 ⟨he, F4, hd4, hc4, hf4⟩
  rw [HR0.out, errV_zero] at he
  subst he
  have HALL : Hid (∀ m : Nat, m ≤ 200 → unE (runS d0 (insL d0 1 0 t)) 1 m = 0 ∧ runE (runS d0 (insL d0 1 0 t)) (unL (runS d0 (insL d0 1 0 t)) 1 m) = 0 ∧ Bm.text (runS (runS d0 (insL d0 1 0 t)) (unL (runS d0 (insL d0 1 0 t)) 1 m)).book = t.toList.take (t.size - m)) := fun m hm => all_back hs60 HX0.out m hm
  have HI1 : Hid (Inv (runS d0 (insL d0 1 0 t))) := run_inv _ inv_zero
  have HB4 : Hid (Below w.heap.size w w4) := hc4.below (fun g hg => (HF1.out g hg).1) HB3.out HB3.out.size
  have HF4 : Hid (∀ g, F4 g → w.heap.size ≤ g ∧ g < w4.heap.size) := fun g hg => ⟨by
    rcases hf4 g hg with e | e
    · exact (HF1.out g e).1
    · exact Nat.le_trans HB3.out.size e, hd4.lt g hg⟩
  have HD4 : Hid (DocAt w4 A (runS d0 (insL d0 1 0 t)) F4) := hd4
  obtain ⟨S, hS⟩ : ∃ S, S = runS d0 (insL d0 1 0 t) := ⟨_, rfl⟩
  rw [← hS] at HALL HD4 HI1
  clear CD hd4 hc4 hf4 HF1 HXG HD3 HB3 HB1 HR0 HXM hS HX0
  have CU := undo_any A S F4 1 n w4 HD4.out
  by_cases hn : n < 0 ∨ 200 < n
  · have hE : unE S 1 n = 1 := by unfold unE; rw [if_pos (Or.inr hn)]
    rw [hE] at CU
    have tst : n < 0 ∨ (¬ n < 0 ∧ 200 < n) := by omega
    clear hE hn HALL
    rcases tst with q1 | ⟨q1, q2⟩
    all_goals
      go_wp2_with fail
      refine CU.mono ?_
      rintro e w5 ⟨v5, he, _, hv5, hb5⟩
      have := hv5 (by decide)
      subst this
      rw [errV_ne (by decide)] at he
      subst he
      have HB5 : Hid (Below w.heap.size w w5) := bel HB4.out hb5
      have CE := Kl.same_err 1 1 w5 (Kl.ET.below HG.out HB5.out)
      clear hv5 hb5 CU
      go_wp2_with fail
      refine CE.mono ?_
      rintro e w6 ⟨rfl, hb6⟩
      have HB6 : Hid (Below w.heap.size w w6) := bel HB5.out hb6
      clear CE hb6
      go_wp2_with fail
      go_ret
      exact ⟨rfl, HB6.out⟩
  obtain ⟨m, rfl⟩ : ∃ m : Nat, n = m := ⟨n.toNat, by omega⟩
  have hm : m ≤ 200 := by omega
  have q1 : ¬ (m : Int) < 0 := by omega
  have q2 : ¬ (200 : Int) < (m : Int) := by omega
  obtain ⟨a1, a2, a3⟩ := HALL.out m hm
  rw [a1] at CU
  have HY : Hid (runE S (unL S 1 m) = 0) := a2
  have HT : Hid (Bm.text (runS S (unL S 1 m)).book = t.toList.take (t.size - m)) := a3
  have HM : Hid (∀ x ∈ unL S 1 m, x.2.2.1.size ≤ maxLen) := unL_small HI1.out 1 m
  clear a1 a2 a3 HALL hn
  go_wp2_with fail
  refine CU.mono ?_
  rintro e w5 ⟨v5, he, hv5, _, hb5⟩
  rw [errV_zero] at he
  subst he
  have hv5 := hv5 rfl
  obtain ⟨p5, n5, c5, rfl⟩ : ∃ p n c, v5 = .slice p n c := by obtain ⟨p, c, e, _⟩ := hv5; exact ⟨_, _, _, e⟩
  have HB5 : Hid (Below w.heap.size w w5) := bel HB4.out hb5
  have CD := do_any A S F4 (New w4.heap.size w5) _ (unL S 1 m) w5 (HD4.out.below hb5) (opsG_J hv5) (fun g hg => ⟨hg.2, fun e => by have := (HF4.out g e).2; have := hg.1; omega⟩) HM.out
  clear CU hv5 hb5
  go_wp2_with fail
  refine CD.mono ?_
  rintro e w6 ⟨he, F6, hd6, hc6, hf6⟩
  rw [HY.out, errV_zero] at he
  subst he
  have HB6 : Hid (Below w.heap.size w w6) := hc6.below (fun g hg => (HF4.out g hg).1) HB5.out HB5.out.size
  have CT : Hid (∀ W, Below w6.heap.size w6 W → Calls Tryz.prog 17 #[.pointer (some ⟨A, 0, none⟩)] W fun e w' => e = .returned (.string (Lf.textR (runS S (unL S 1 m)).book)) ∧ Below W.heap.size W w') := fun W hb => text_get A _ F6 W (hd6.below hb)
  have HTR : Hid ((Lf.textR (runS S (unL S 1 m)).book).toList = t.toList.take (t.size - m)) := by
    rw [Hid, ← HT.out]; unfold Lf.textR; rw [if_pos (run_inv _ HI1.out).book, Om.toList_mk]
  obtain ⟨st, hst⟩ : ∃ st, st = Lf.textR (runS S (unL S 1 m)).book := ⟨_, rfl⟩
  rw [← hst] at CT HTR
  clear CD hd6 hc6 hf6 HD4 HF4 HB5 HB4 HM HY HT hst HI1
  by_cases hmt : m ≤ t.size
  · have hk : ¬ (t.size : Int) - (m : Int) < 0 := by omega
    have hk0 : (0 : Int) ≤ (t.size : Int) - (m : Int) := by omega
    have hk1 : (t.size : Int) - (m : Int) ≤ (t.size : Int) := by omega
    have hkn : ((t.size : Int) - (m : Int)).toNat = t.size - m := by omega
    have heq : (st.toList == (t.extract 0 (t.size - m)).toList) = true := by rw [HTR.out, ext_list _ _ (by omega)]; simp
    have heq2 : (st.toList == (t.extract 0 ((t.size : Int) - (m : Int)).toNat).toList) = true := by rw [hkn]; exact heq
    go_wp2_with fail
    go_region_held3 (fun W => True) (trivial) (first
      | (go_at_call 17; refine (CT.out _ ((Below.refl _ _).drew)).mono ?_; rintro e w7 ⟨rfl, hb7⟩; have HB7 : Hid (Below w.heap.size w w7) := bel HB6.out.drew hb7))
    clear hb7
    go_wp2_with fail
    go_ret
    exact ⟨rfl, HB7.out⟩
  · have hk : (t.size : Int) - (m : Int) < 0 := by omega
    have HEM : Hid (st.toList.isEmpty = true) := by rw [Hid, HTR.out, show t.size - m = 0 by omega]; simp
    go_wp2_with fail
    go_region_held3 (fun W => True) (trivial) (first
      | (go_at_call 17; refine (CT.out _ ((Below.refl _ _).drew)).mono ?_; rintro e w7 ⟨rfl, hb7⟩; have HB7 : Hid (Below w.heap.size w w7) := bel HB6.out.drew hb7))
    clear hb7
    go_wp2_with fail
    go_ret
    exact ⟨by show Ending.returned (.bool st.toList.isEmpty) = _; rw [HEM.out], HB7.out⟩

end Bq
end Go.Proofs.YtnbnniapllkjlaaGreatDoor
