/- The walk of CursorTells. -/
import Derived.Test.YtcmoajlcmeimiacDoorCc
import Derived.Deep.DeepCutAuto
namespace Go.Proofs.YtcmoajlcmeimiacDoor
namespace Cd
set_option linter.unusedVariables false
set_option linter.unusedSimpArgs false
open Go.ChangeShapes Go.WideShapes Go.ChangeAt Go.RowKit Bm Ka Kb La Lb Lc Ld Le Lf Lg Lp Ma Mb Ca Cc Kt Kl
open Lj (BookAt)

theorem err_same {a b : Int} (e : a = b) (w W : World) (hg : ET w) (hb : Below w.heap.size w W) : Calls Tryd.prog 8 #[errV a, .int .i64 b] W fun e w' => e = .returned (.bool true) ∧ Below W.heap.size W w' := by
  refine (same_any a b W (Kl.ET.below hg hb)).mono ?_
  rintro e9 w' ⟨rfl, h⟩
  exact ⟨by simp [e], h⟩
theorem res_wrong {l : List Leaf} {p : ByteArray} (h : resE l p ≠ 0) : resR l p = 0 := by
  unfold resE at h
  unfold resR
  split
  · rename_i hp
    rw [if_pos hp] at h
    unfold textR; rw [if_neg h]; rfl
  · rename_i hp
    rw [if_neg hp] at h
    unfold offR; rw [if_neg h]
theorem res_err {l : List Leaf} {p : ByteArray} (hp : p.size ≠ 0) (hb : bookE l = 0) : resE l p = Pm.chk p.toList := by
  unfold resE withE; rw [if_neg hp, if_neg (by simpa using hb)]
theorem res_emp {l : List Leaf} {p : ByteArray} (hp : p.size = 0) : resE l p = bookE l := by unfold resE; rw [if_pos hp]
theorem res_bad {l : List Leaf} {p : ByteArray} (hb : bookE l ≠ 0) : resE l p = bookE l := by
  unfold resE withE
  by_cases hp : p.size = 0
  · rw [if_pos hp]
  · rw [if_neg hp, if_pos hb]
theorem rng_bad {l : List Leaf} {p r : ByteArray} (h : rngE l p r ≠ 0) : rngR l p r = ⟨#[]⟩ := by unfold rngR; rw [if_neg h]
theorem rng1 {l : List Leaf} {p r : ByteArray} (h : resE l p ≠ 0) : rngE l p r = resE l p := by unfold rngE; rw [if_pos h]
theorem rng2 {l : List Leaf} {p r : ByteArray} (h : resE l p = 0) (h2 : resE l r ≠ 0) : rngE l p r = resE l r := by unfold rngE; rw [if_neg (by simpa using h), if_pos h2]
theorem rng3 {l : List Leaf} {p r : ByteArray} (h : resE l p = 0) (h2 : resE l r = 0) (h3 : resR l r < resR l p) : rngE l p r = 3 := by unfold rngE; rw [if_neg (by simpa using h), if_neg (by simpa using h2), if_pos h3]
theorem rng4 {l : List Leaf} {p r : ByteArray} (h : resE l p = 0) (h2 : resE l r = 0) (h3 : ¬ resR l r < resR l p) : rngE l p r = 0 ∧ rngR l p r = (textR l).extract (resR l p).toNat (resR l r).toNat := by
  have e : rngE l p r = 0 := by unfold rngE; rw [if_neg (by simpa using h), if_neg (by simpa using h2), if_neg h3]
  exact ⟨e, by unfold rngR; rw [if_pos e]⟩

set_option maxRecDepth 100000 in
set_option maxHeartbeats 8000000 in
theorem walk (v : Value) (l : List Leaf) (f : Int) (p r : ByteArray) (w : World) (h : BookAt w v l) (hs : ∀ x ∈ l, x.1.size ≤ maxLen) (hp : p.size ≤ maxLen) (hr : r.size ≤ maxLen) (hg : ET w) :
    Calls Tryd.prog 3 #[v, .int .i64 f, .string p, .string r] w fun e w' => e = .returned (.bool true) ∧ Below w.heap.size w w' := by
  have HBK : Hid (BookAt w v l) := h
  obtain ⟨q, c, rfl, hl, hn1, hn2, _⟩ := h
  obtain ⟨n, hn⟩ : ∃ n, n = l.length := ⟨_, rfl⟩
  rw [← hn] at HBK hn1 ⊢
  have HG : Hid (ET w) := hg
  have HL : Hid (l.length = n ∧ n ≤ c ∧ c ≤ maxLen) := ⟨hn.symm, hn1, hn2⟩
  have HLI : Hid (LeafsIn w q l) := hl
  have HSZ : Hid (p.size ≤ maxLen ∧ r.size ≤ maxLen) := ⟨hp, hr⟩
  have HX : Hid (∀ x ∈ l, x.1.size ≤ maxLen) := hs
  obtain ⟨KE, hKE⟩ : ∃ z, z = bookE l := ⟨_, rfl⟩
  obtain ⟨F1, hF1⟩ : ∃ z, z = anchE l f := ⟨_, rfl⟩
  obtain ⟨X, hX⟩ : ∃ z, z = anchR l f := ⟨_, rfl⟩
  obtain ⟨T, hT⟩ : ∃ z, z = textR l := ⟨_, rfl⟩
  have HKE : Hid (KE = bookE l) := hKE
  have HF1 : Hid (F1 = anchE l f) := hF1
  have HXE : Hid (X = anchR l f) := hX
  have HT : Hid (T = textR l) := hT
  have CB : Calls Tryd.prog 4 #[.slice q n c] w fun e w' => e = .returned (.int .i64 KE) ∧ Below w.heap.size w w' := by
    have := book_ref q n c l w hn.symm hl hs (by omega)
    rw [← hKE] at this; exact this
  have CT : Hid (bookE l = 0 → ∀ W, Below w.heap.size w W → Calls Tryd.prog 5 #[.slice q n c] W fun e w' => e = .returned (.string T) ∧ Below W.heap.size W w') := by
    intro h0 W hb
    have := text_ref q n c l W hn.symm (hl.below hb) (book_ok h0).2.2 (by have := (book_ok h0).1; omega)
    rw [← textR_zero h0, ← hT] at this; exact this
  have CA : Hid (∀ W, Below w.heap.size w W → Calls Tryd.prog 7 #[.slice q n c, .int .i64 f] W fun e w' => e = .returned (.tuple #[.string X, errV F1]) ∧ Below W.heap.size W w') := by
    intro W hb
    have := anchor_any _ l f W (HBK.out.below hb) hs
    rw [← hX, ← hF1] at this; exact this
  have CE1 : Hid (∀ W, Below w.heap.size w W → Calls Tryd.prog 8 #[errV F1, .int .i64 F1] W fun e w' => e = .returned (.bool true) ∧ Below W.heap.size W w') := by
    intro W hb; exact err_same rfl w W hg hb
  obtain ⟨ev1, hev1⟩ : ∃ z, z = errV F1 := ⟨_, rfl⟩
  rw [← hev1] at CA CE1
  clear hs hp hr hg hl hn1 hn2 hn hKE hF1 hX hT hev1
  go_enter Tryd.func3, Tryd.ntmps3
  go_wp2_with fail
  refine CB.mono ?_
  rintro e w1 ⟨rfl, hb1⟩
  have HB1 : Hid (Below w.heap.size w w1) := hb1
  clear hb1 CB
  go_upto_if 27 with fail
  go_cut [10, 11, 12] (fun s10 s11 s12 wx => s10 = .int .i64 F1 ∧ s11 = .string T ∧ s12 = .string X ∧ Hid (Below w.heap.size w wx))
  case first =>
    clear CA CE1
    by_cases h0 : bookE l = 0
    · have hk0 : (KE == 0) = true := by rw [HKE.out, h0]; rfl
      have hts : T.size = (text l).length := by rw [HT.out]; exact textR_size h0
      have h300 := text_300 h0
      have hts3 : T.size ≤ 300 := by omega
      have C1 := CT.out h0 w1 HB1.out
      by_cases hlo : f < 0
      · have HR : Hid (F1 = 1 ∧ X = ⟨#[]⟩) := by
          refine ⟨?_, ?_⟩
          · rw [HF1.out]; unfold anchE; rw [if_neg (by simpa using h0), if_pos (Or.inl hlo)]
          · rw [HXE.out]; unfold anchR; rw [if_neg (by omega)]
        clear hts h300 h0 CT
        go_wp2_with fail
        refine C1.mono ?_
        rintro e w2 ⟨rfl, hb2⟩
        have HB2 : Hid (Below w.heap.size w w2) := bel HB1.out hb2
        clear hb2 C1
        go_wp2_with fail
        go_meet
        case rel => exact ⟨by rw [HR.out.1], rfl, by rw [HR.out.2], HB2⟩
      by_cases hhi : (T.size : Int) < f
      · have HR : Hid (F1 = 1 ∧ X = ⟨#[]⟩) := by
          refine ⟨?_, ?_⟩
          · rw [HF1.out]; unfold anchE; rw [if_neg (by simpa using h0), if_pos (Or.inr (by omega))]
          · rw [HXE.out]; unfold anchR; rw [if_neg (by omega)]
        clear hts h300 h0 CT
        go_wp2_with fail
        refine C1.mono ?_
        rintro e w2 ⟨rfl, hb2⟩
        have HB2 : Hid (Below w.heap.size w w2) := bel HB1.out hb2
        clear hb2 C1
        go_wp2_with fail
        go_meet
        case rel => exact ⟨by rw [HR.out.1], rfl, by rw [HR.out.2], HB2⟩
      by_cases hin : f < (T.size : Int)
      · obtain ⟨k, hk⟩ := nth_in (l := l) (f := f) (by omega) (by omega)
        have HR : Hid (F1 = 0 ∧ X = (l.getD k none0).1) := by
          refine ⟨?_, ?_⟩
          · rw [HF1.out]; unfold anchE; rw [if_neg (by simpa using h0), if_neg (by omega)]
          · rw [HXE.out]; unfold anchR; rw [if_pos ⟨h0, by omega, by omega⟩, hk.nth]; rfl
        have CN : Hid (∀ W, Below w.heap.size w W → Calls Tryd.prog 6 #[.slice q n c, .int .i64 f] W fun e w' => e = .returned (.int .i64 (k : Int)) ∧ Below W.heap.size W w') := by
          intro W hb
          have := nth_ref q n c l f W HL.out.1 (HLI.out.below hb) (by have := (book_ok h0).1; have := HL.out.1; omega) (by omega)
          rw [hk.nth] at this; exact this
        obtain ⟨b, o, rfl, hc⟩ := HLI.out.some (by rintro rfl; have := hk.lt; simp at this)
        have hci := hc k hk.lt
        obtain ⟨x, hx⟩ : ∃ x, x = l.getD k none0 := ⟨_, rfl⟩
        rw [← hx] at hci HR
        obtain ⟨sx, nx, bx⟩ := x
        have HCI : Hid (At w b o k (sx, nx, bx)) := hci
        have hkz : (k : Int) < n := by have := hk.lt; have := HL.out.1; omega
        clear hts h300 h0 CT hc hci hx hk
        go_wp2_with fail
        refine C1.mono ?_
        rintro e w2 ⟨rfl, hb2⟩
        have HB2 : Hid (Below w.heap.size w w2) := bel HB1.out hb2
        have C2 := CN.out w2 HB2.out
        clear hb2 C1 CN
        go_wp2_with fail
        refine C2.mono ?_
        rintro e w3 ⟨rfl, hb3⟩
        have HB3 : Hid (Below w.heap.size w w3) := bel HB2.out hb3
        obtain ⟨a1, a2, a3⟩ := HCI.out.below HB3.out HCI.out.lt
        simp only at a1 a2 a3
        clear hb3 C2
        go_wp2_with fail
        go_meet
        case rel => exact ⟨by rw [HR.out.1]; first | rfl | simp_all, rfl, by rw [HR.out.2], HB3⟩
      · have HR : Hid (F1 = KE ∧ X = ⟨#[]⟩) := by
          refine ⟨?_, ?_⟩
          · rw [HF1.out, HKE.out, h0]; unfold anchE; rw [if_neg (by simpa using h0), if_neg (by omega)]
          · rw [HXE.out]; unfold anchR; rw [if_neg (by omega)]
        clear hts h300 h0 CT
        go_wp2_with fail
        refine C1.mono ?_
        rintro e w2 ⟨rfl, hb2⟩
        have HB2 : Hid (Below w.heap.size w w2) := bel HB1.out hb2
        clear hb2 C1
        go_wp2_with fail
        go_meet
        case rel => exact ⟨by rw [HR.out.1], rfl, by rw [HR.out.2], HB2⟩
    · have hk0 : (KE == 0) = false := by rw [HKE.out]; simpa using h0
      have HR : Hid (F1 = KE ∧ X = ⟨#[]⟩ ∧ T = ⟨#[]⟩) := by
        refine ⟨?_, ?_, ?_⟩
        · rw [HF1.out, HKE.out]; unfold anchE; rw [if_pos h0]
        · rw [HXE.out]; unfold anchR; rw [if_neg (fun e => h0 e.1)]
        · rw [HT.out]; unfold textR; rw [if_neg h0]
      clear h0 CT
      go_wp2_with fail
      go_meet
      case rel => exact ⟨by rw [HR.out.1], by rw [HR.out.2.2], by rw [HR.out.2.1], HB1⟩
  case rest =>
  obtain ⟨rfl, rfl, rfl, HB2⟩ := hcut
  clear CT HF1 HXE
  go_wp2_with fail
  refine (CA.out _ HB2.out).mono ?_
  rintro e w3 ⟨rfl, hb3⟩
  have HB3 : Hid (Below w.heap.size w w3) := bel HB2.out hb3
  clear hb3 CA HB2
  go_wp2_with fail
  refine (CE1.out _ HB3.out).mono ?_
  rintro e w4 ⟨rfl, hb4⟩
  have HB4 : Hid (Below w.heap.size w w4) := bel HB3.out hb4
  clear hb4 CE1 HB3
  obtain ⟨ev2, hev2⟩ : ∃ z, z = errV (resE l p) := ⟨_, rfl⟩
  obtain ⟨ev3, hev3⟩ : ∃ z, z = errV (rngE l p r) := ⟨_, rfl⟩
  by_cases h0 : bookE l = 0
  case neg =>
    have hk0 : (KE == 0) = false := by rw [HKE.out]; simpa using h0
    have e1 : resE l p = bookE l := res_bad h0
    have HPE : Hid (resE l p = KE) := by unfold Hid; rw [HKE.out]; exact e1
    have hz : resE l p ≠ 0 := by rw [e1]; exact h0
    have HRP : Hid (resR l p = 0) := res_wrong hz
    have HRE : Hid (rngE l p r = KE) := (rng1 hz).trans HPE.out
    have HNZ : Hid (rngE l p r ≠ 0) := by unfold Hid; rw [rng1 hz]; exact hz
    clear h0 e1 hz
    have CR : Hid (∀ W, Below w.heap.size w W → Calls Tryd.prog 11 #[.slice q n c, .string p] W fun e w' => e = .returned (.tuple #[.int .i64 (0 : Int), ev2]) ∧ Below W.heap.size W w') := by
      intro W hb
      have := resolve_any _ l p W (HBK.out.below hb) HX.out HSZ.out.1
      rw [HRP.out, ← hev2] at this; exact this
    have CE2 : Hid (∀ W, Below w.heap.size w W → Calls Tryd.prog 8 #[ev2, .int .i64 KE] W fun e w' => e = .returned (.bool true) ∧ Below W.heap.size W w') := by
      intro W hb; rw [hev2]; exact err_same HPE.out w W HG.out hb
    have HRG : Hid (rngR l p r = ⟨#[]⟩) := rng_bad HNZ.out
    have CG : Hid (∀ W, Below w.heap.size w W → Calls Tryd.prog 12 #[.slice q n c, .string p, .string r] W fun e w' => e = .returned (.tuple #[.string ⟨#[]⟩, ev3]) ∧ Below W.heap.size W w') := by
      intro W hb
      have := range_any _ l p r W (HBK.out.below hb) HX.out HSZ.out.1 HSZ.out.2
      rw [HRG.out, ← hev3] at this; exact this
    have CE3 : Hid (∀ W, Below w.heap.size w W → Calls Tryd.prog 8 #[ev3, .int .i64 KE] W fun e w' => e = .returned (.bool true) ∧ Below W.heap.size W w') := by
      intro W hb; rw [hev3]; exact err_same HRE.out w W HG.out hb
    clear hev2 hev3 HBK HX HLI HL HSZ HG HRG HRE HPE HRP HKE HT
    go_wp2_with fail
    refine (CR.out _ HB4.out).mono ?_
    rintro e w5 ⟨rfl, hb5⟩
    have HB5 : Hid (Below w.heap.size w w5) := bel HB4.out hb5
    clear hb5 HB4
    go_wp2_with fail
    refine (CE2.out _ HB5.out).mono ?_
    rintro e w6 ⟨rfl, hb6⟩
    have HB6 : Hid (Below w.heap.size w w6) := bel HB5.out hb6
    clear hb6 HB5
    go_wp2_with fail
    refine (CG.out _ HB6.out).mono ?_
    rintro e w7 ⟨rfl, hb7⟩
    have HB7 : Hid (Below w.heap.size w w7) := bel HB6.out hb7
    clear hb7 HB6
    go_wp2_with fail
    refine (CE3.out _ HB7.out).mono ?_
    rintro e w8 ⟨rfl, hb8⟩
    have HB8 : Hid (Below w.heap.size w w8) := bel HB7.out hb8
    clear hb8 HB7
    go_wp2_with fail
    go_ret
    exact ⟨by first | rfl | (refine ret_bool ?_; simp), HB8.out⟩
  case pos =>
  have hk0 : (KE == 0) = true := by rw [HKE.out, h0]; rfl
  have hts : T.size = (text l).length := by rw [HT.out]; exact textR_size h0
  have h300 := text_300 h0
  have hts3 : T.size ≤ 300 := by omega
  by_cases hpz : p.size = 0
  · have hpem : p = ⟨#[]⟩ := size_nil hpz
    subst hpem
    have HPE : Hid (resE l ⟨#[]⟩ = KE) := by unfold Hid; rw [HKE.out]; exact res_emp hpz
    have HP0 : Hid (resE l ⟨#[]⟩ = 0) := (res_emp hpz).trans h0
    obtain ⟨at0, at1⟩ := resR_in HP0.out
    obtain ⟨a, ha⟩ : ∃ a : Nat, a = (resR l ⟨#[]⟩).toNat := ⟨_, rfl⟩
    obtain ⟨AT, hAT⟩ : ∃ AT : Int, AT = (a : Int) := ⟨_, rfl⟩
    have hra : resR l ⟨#[]⟩ = AT := by omega
    have HRP : Hid (resR l ⟨#[]⟩ = AT) := hra
    by_cases hrz : r.size = 0
    · have hrem : r = ⟨#[]⟩ := size_nil hrz
      subst hrem
      have HQ0 : Hid (resE l ⟨#[]⟩ = 0) := (res_emp hrz).trans h0
      obtain ⟨bt0, bt1⟩ := resR_in HQ0.out
      obtain ⟨b, hbb⟩ : ∃ b : Nat, b = (resR l ⟨#[]⟩).toNat := ⟨_, rfl⟩
      obtain ⟨BT, hBT⟩ : ∃ BT : Int, BT = (b : Int) := ⟨_, rfl⟩
      have hrb : resR l ⟨#[]⟩ = BT := by omega
      have HRQ : Hid (resR l ⟨#[]⟩ = BT) := hrb
      by_cases hlt : BT < AT
      · have HRE : Hid (rngE l ⟨#[]⟩ ⟨#[]⟩ = 3) := rng3 HP0.out HQ0.out (by omega)
        have HNZ : Hid (rngE l ⟨#[]⟩ ⟨#[]⟩ ≠ 0) := by unfold Hid; rw [HRE.out]; decide
        clear h0 hts h300 at0 at1 ha hAT hra bt0 bt1 hbb hBT hrb hpz hrz
        have CR : Hid (∀ W, Below w.heap.size w W → Calls Tryd.prog 11 #[.slice q n c, .string ⟨#[]⟩] W fun e w' => e = .returned (.tuple #[.int .i64 AT, ev2]) ∧ Below W.heap.size W w') := by
          intro W hb
          have := resolve_any _ l ⟨#[]⟩ W (HBK.out.below hb) HX.out HSZ.out.1
          rw [HRP.out, ← hev2] at this; exact this
        have CE2 : Hid (∀ W, Below w.heap.size w W → Calls Tryd.prog 8 #[ev2, .int .i64 KE] W fun e w' => e = .returned (.bool true) ∧ Below W.heap.size W w') := by
          intro W hb; rw [hev2]; exact err_same HPE.out w W HG.out hb
        have CW : Hid (∀ W, Below w.heap.size w W → Calls Tryd.prog 10 #[.slice q n c, .string ⟨#[]⟩] W fun e w' => e = .returned (.int .i64 AT) ∧ Below W.heap.size W w') := by
          intro W hb
          have := where_any q n c l ⟨#[]⟩ W HL.out.1 (HLI.out.below hb) HL.out.2.1 HL.out.2.2 HP0.out
          rw [HRP.out] at this; exact this
        have HRG : Hid (rngR l ⟨#[]⟩ ⟨#[]⟩ = ⟨#[]⟩) := rng_bad HNZ.out
        have CG : Hid (∀ W, Below w.heap.size w W → Calls Tryd.prog 12 #[.slice q n c, .string ⟨#[]⟩, .string ⟨#[]⟩] W fun e w' => e = .returned (.tuple #[.string ⟨#[]⟩, ev3]) ∧ Below W.heap.size W w') := by
          intro W hb
          have := range_any _ l ⟨#[]⟩ ⟨#[]⟩ W (HBK.out.below hb) HX.out HSZ.out.1 HSZ.out.2
          rw [HRG.out, ← hev3] at this; exact this
        have CE3 : Hid (∀ W, Below w.heap.size w W → Calls Tryd.prog 8 #[ev3, .int .i64 (3 : Int)] W fun e w' => e = .returned (.bool true) ∧ Below W.heap.size W w') := by
          intro W hb; rw [hev3]; exact err_same HRE.out w W HG.out hb
        have CV : Hid (∀ W, Below w.heap.size w W → Calls Tryd.prog 10 #[.slice q n c, .string ⟨#[]⟩] W fun e w' => e = .returned (.int .i64 BT) ∧ Below W.heap.size W w') := by
          intro W hb
          have := where_any q n c l ⟨#[]⟩ W HL.out.1 (HLI.out.below hb) HL.out.2.1 HL.out.2.2 HQ0.out
          rw [HRQ.out] at this; exact this
        clear hev2 hev3 HBK HX HLI HL HSZ HG HRG HRE HPE HRP HKE HT
        go_wp2_with fail
        refine (CW.out _ HB4.out).mono ?_
        rintro e w5 ⟨rfl, hb5⟩
        have HB5 : Hid (Below w.heap.size w w5) := bel HB4.out hb5
        clear hb5 HB4
        go_wp2_with fail
        refine (CR.out _ HB5.out).mono ?_
        rintro e w6 ⟨rfl, hb6⟩
        have HB6 : Hid (Below w.heap.size w w6) := bel HB5.out hb6
        clear hb6 HB5
        go_wp2_with fail
        refine (CE2.out _ HB6.out).mono ?_
        rintro e w7 ⟨rfl, hb7⟩
        have HB7 : Hid (Below w.heap.size w w7) := bel HB6.out hb7
        clear hb7 HB6
        go_wp2_with fail
        refine (CV.out _ HB7.out).mono ?_
        rintro e w8 ⟨rfl, hb8⟩
        have HB8 : Hid (Below w.heap.size w w8) := bel HB7.out hb8
        clear hb8 HB7
        go_wp2_with fail
        refine (CG.out _ HB8.out).mono ?_
        rintro e w9 ⟨rfl, hb9⟩
        have HB9 : Hid (Below w.heap.size w w9) := bel HB8.out hb9
        clear hb9 HB8
        go_wp2_with fail
        refine (CE3.out _ HB9.out).mono ?_
        rintro e w10 ⟨rfl, hb10⟩
        have HB10 : Hid (Below w.heap.size w w10) := bel HB9.out hb10
        clear hb10 HB9
        go_wp2_with fail
        go_ret
        exact ⟨by first | rfl | (refine ret_bool ?_; simp), HB10.out⟩
      · have hr4 := rng4 HP0.out HQ0.out (by omega)
        have HRE : Hid (rngE l ⟨#[]⟩ ⟨#[]⟩ = KE) := hr4.1.trans (HKE.out.trans h0).symm
        obtain ⟨RG, hRG⟩ : ∃ z, z = rngR l ⟨#[]⟩ ⟨#[]⟩ := ⟨_, rfl⟩
        subst hAT hBT
        have hRT : RG = T.extract a b := by rw [hRG, hr4.2, HT.out, ha, hbb]
        have h3a : (a : Int) ≤ (b : Int) := by omega
        have h3b : (b : Int) ≤ (T.size : Int) := by omega
        clear h0 hts h300 at0 at1 ha hra bt0 bt1 hbb hrb hr4 hpz hrz
        clear hlt
        have hlt : ¬ (b : Int) < (a : Int) := by omega
        have CR : Hid (∀ W, Below w.heap.size w W → Calls Tryd.prog 11 #[.slice q n c, .string ⟨#[]⟩] W fun e w' => e = .returned (.tuple #[.int .i64 (a : Int), ev2]) ∧ Below W.heap.size W w') := by
          intro W hb
          have := resolve_any _ l ⟨#[]⟩ W (HBK.out.below hb) HX.out HSZ.out.1
          rw [HRP.out, ← hev2] at this; exact this
        have CE2 : Hid (∀ W, Below w.heap.size w W → Calls Tryd.prog 8 #[ev2, .int .i64 KE] W fun e w' => e = .returned (.bool true) ∧ Below W.heap.size W w') := by
          intro W hb; rw [hev2]; exact err_same HPE.out w W HG.out hb
        have CW : Hid (∀ W, Below w.heap.size w W → Calls Tryd.prog 10 #[.slice q n c, .string ⟨#[]⟩] W fun e w' => e = .returned (.int .i64 (a : Int)) ∧ Below W.heap.size W w') := by
          intro W hb
          have := where_any q n c l ⟨#[]⟩ W HL.out.1 (HLI.out.below hb) HL.out.2.1 HL.out.2.2 HP0.out
          rw [HRP.out] at this; exact this
        have HRG : Hid (rngR l ⟨#[]⟩ ⟨#[]⟩ = T.extract a b) := hRG.symm.trans hRT
        have CG : Hid (∀ W, Below w.heap.size w W → Calls Tryd.prog 12 #[.slice q n c, .string ⟨#[]⟩, .string ⟨#[]⟩] W fun e w' => e = .returned (.tuple #[.string (T.extract a b), ev3]) ∧ Below W.heap.size W w') := by
          intro W hb
          have := range_any _ l ⟨#[]⟩ ⟨#[]⟩ W (HBK.out.below hb) HX.out HSZ.out.1 HSZ.out.2
          rw [HRG.out, ← hev3] at this; exact this
        have CE3 : Hid (∀ W, Below w.heap.size w W → Calls Tryd.prog 8 #[ev3, .int .i64 KE] W fun e w' => e = .returned (.bool true) ∧ Below W.heap.size W w') := by
          intro W hb; rw [hev3]; exact err_same HRE.out w W HG.out hb
        have CV : Hid (∀ W, Below w.heap.size w W → Calls Tryd.prog 10 #[.slice q n c, .string ⟨#[]⟩] W fun e w' => e = .returned (.int .i64 (b : Int)) ∧ Below W.heap.size W w') := by
          intro W hb
          have := where_any q n c l ⟨#[]⟩ W HL.out.1 (HLI.out.below hb) HL.out.2.1 HL.out.2.2 HQ0.out
          rw [HRQ.out] at this; exact this
        clear hev2 hev3 HBK HX HLI HL HSZ HG HRG HRE HPE HRP HKE HT hRG hRT
        go_wp2_with fail
        refine (CW.out _ HB4.out).mono ?_
        rintro e w5 ⟨rfl, hb5⟩
        have HB5 : Hid (Below w.heap.size w w5) := bel HB4.out hb5
        clear hb5 HB4
        go_wp2_with fail
        refine (CR.out _ HB5.out).mono ?_
        rintro e w6 ⟨rfl, hb6⟩
        have HB6 : Hid (Below w.heap.size w w6) := bel HB5.out hb6
        clear hb6 HB5
        go_wp2_with fail
        refine (CE2.out _ HB6.out).mono ?_
        rintro e w7 ⟨rfl, hb7⟩
        have HB7 : Hid (Below w.heap.size w w7) := bel HB6.out hb7
        clear hb7 HB6
        go_wp2_with fail
        refine (CV.out _ HB7.out).mono ?_
        rintro e w8 ⟨rfl, hb8⟩
        have HB8 : Hid (Below w.heap.size w w8) := bel HB7.out hb8
        clear hb8 HB7
        go_wp2_with fail
        refine (CG.out _ HB8.out).mono ?_
        rintro e w9 ⟨rfl, hb9⟩
        have HB9 : Hid (Below w.heap.size w w9) := bel HB8.out hb9
        clear hb9 HB8
        go_wp2_with fail
        refine (CE3.out _ HB9.out).mono ?_
        rintro e w10 ⟨rfl, hb10⟩
        have HB10 : Hid (Below w.heap.size w w10) := bel HB9.out hb10
        clear hb10 HB9
        go_wp2_with fail
        go_ret
        exact ⟨by first | rfl | (refine ret_bool ?_; simp), HB10.out⟩
    · have hre := ne_nil hrz
      obtain ⟨QE, hQE⟩ : ∃ z, z = Pm.chk r.toList := ⟨_, rfl⟩
      have HQC : Hid (QE = Pm.chk r.toList) := hQE
      have hq1 : resE l r = QE := by rw [hQE]; exact res_err hrz h0
      have HQE : Hid (resE l r = QE) := hq1
      clear hQE
      by_cases hqz : QE = 0
      · have hq0 : (QE == 0) = true := by simpa using hqz
        have HQ9 : Hid (resE l r = 0) := hq1.trans hqz
        clear hq1 hqz
        have HQ0 : Hid (resE l r = 0) := HQ9.out
        obtain ⟨bt0, bt1⟩ := resR_in HQ0.out
        obtain ⟨b, hbb⟩ : ∃ b : Nat, b = (resR l r).toNat := ⟨_, rfl⟩
        obtain ⟨BT, hBT⟩ : ∃ BT : Int, BT = (b : Int) := ⟨_, rfl⟩
        have hrb : resR l r = BT := by omega
        have HRQ : Hid (resR l r = BT) := hrb
        by_cases hlt : BT < AT
        · have HRE : Hid (rngE l ⟨#[]⟩ r = 3) := rng3 HP0.out HQ0.out (by omega)
          have HNZ : Hid (rngE l ⟨#[]⟩ r ≠ 0) := by unfold Hid; rw [HRE.out]; decide
          clear h0 hts h300 at0 at1 ha hAT hra bt0 bt1 hbb hBT hrb hpz hrz
          have CR : Hid (∀ W, Below w.heap.size w W → Calls Tryd.prog 11 #[.slice q n c, .string ⟨#[]⟩] W fun e w' => e = .returned (.tuple #[.int .i64 AT, ev2]) ∧ Below W.heap.size W w') := by
            intro W hb
            have := resolve_any _ l ⟨#[]⟩ W (HBK.out.below hb) HX.out HSZ.out.1
            rw [HRP.out, ← hev2] at this; exact this
          have CE2 : Hid (∀ W, Below w.heap.size w W → Calls Tryd.prog 8 #[ev2, .int .i64 KE] W fun e w' => e = .returned (.bool true) ∧ Below W.heap.size W w') := by
            intro W hb; rw [hev2]; exact err_same HPE.out w W HG.out hb
          have CW : Hid (∀ W, Below w.heap.size w W → Calls Tryd.prog 10 #[.slice q n c, .string ⟨#[]⟩] W fun e w' => e = .returned (.int .i64 AT) ∧ Below W.heap.size W w') := by
            intro W hb
            have := where_any q n c l ⟨#[]⟩ W HL.out.1 (HLI.out.below hb) HL.out.2.1 HL.out.2.2 HP0.out
            rw [HRP.out] at this; exact this
          have HRG : Hid (rngR l ⟨#[]⟩ r = ⟨#[]⟩) := rng_bad HNZ.out
          have CG : Hid (∀ W, Below w.heap.size w W → Calls Tryd.prog 12 #[.slice q n c, .string ⟨#[]⟩, .string r] W fun e w' => e = .returned (.tuple #[.string ⟨#[]⟩, ev3]) ∧ Below W.heap.size W w') := by
            intro W hb
            have := range_any _ l ⟨#[]⟩ r W (HBK.out.below hb) HX.out HSZ.out.1 HSZ.out.2
            rw [HRG.out, ← hev3] at this; exact this
          have CE3 : Hid (∀ W, Below w.heap.size w W → Calls Tryd.prog 8 #[ev3, .int .i64 (3 : Int)] W fun e w' => e = .returned (.bool true) ∧ Below W.heap.size W w') := by
            intro W hb; rw [hev3]; exact err_same HRE.out w W HG.out hb
          have CQ : Hid (∀ W, Below w.heap.size w W → Calls Tryd.prog 9 #[.string r] W fun e w' => e = .returned (.int .i64 QE) ∧ Below W.heap.size W w') := by
            intro W hb
            have := place_ref r W HSZ.out.2
            rw [← HQC.out] at this
            refine this.mono ?_; rintro e w' ⟨rfl, h9⟩
            first | exact ⟨rfl, h9⟩ | (subst h9; exact ⟨rfl, Below.refl _ _⟩)
          have CV : Hid (∀ W, Below w.heap.size w W → Calls Tryd.prog 10 #[.slice q n c, .string r] W fun e w' => e = .returned (.int .i64 BT) ∧ Below W.heap.size W w') := by
            intro W hb
            have := where_any q n c l r W HL.out.1 (HLI.out.below hb) HL.out.2.1 HL.out.2.2 HQ0.out
            rw [HRQ.out] at this; exact this
          clear hev2 hev3 HBK HX HLI HL HSZ HG HRG HRE HPE HRP HKE HT
          go_wp2_with fail
          refine (CW.out _ HB4.out).mono ?_
          rintro e w5 ⟨rfl, hb5⟩
          have HB5 : Hid (Below w.heap.size w w5) := bel HB4.out hb5
          clear hb5 HB4
          go_wp2_with fail
          refine (CR.out _ HB5.out).mono ?_
          rintro e w6 ⟨rfl, hb6⟩
          have HB6 : Hid (Below w.heap.size w w6) := bel HB5.out hb6
          clear hb6 HB5
          go_wp2_with fail
          refine (CE2.out _ HB6.out).mono ?_
          rintro e w7 ⟨rfl, hb7⟩
          have HB7 : Hid (Below w.heap.size w w7) := bel HB6.out hb7
          clear hb7 HB6
          go_wp2_with fail
          refine (CQ.out _ HB7.out).mono ?_
          rintro e w8 ⟨rfl, hb8⟩
          have HB8 : Hid (Below w.heap.size w w8) := bel HB7.out hb8
          clear hb8 HB7
          go_wp2_with fail
          refine (CV.out _ HB8.out).mono ?_
          rintro e w9 ⟨rfl, hb9⟩
          have HB9 : Hid (Below w.heap.size w w9) := bel HB8.out hb9
          clear hb9 HB8
          go_wp2_with fail
          refine (CG.out _ HB9.out).mono ?_
          rintro e w10 ⟨rfl, hb10⟩
          have HB10 : Hid (Below w.heap.size w w10) := bel HB9.out hb10
          clear hb10 HB9
          go_wp2_with fail
          refine (CE3.out _ HB10.out).mono ?_
          rintro e w11 ⟨rfl, hb11⟩
          have HB11 : Hid (Below w.heap.size w w11) := bel HB10.out hb11
          clear hb11 HB10
          go_wp2_with fail
          go_ret
          exact ⟨by first | rfl | (refine ret_bool ?_; simp), HB11.out⟩
        · have hr4 := rng4 HP0.out HQ0.out (by omega)
          have HRE : Hid (rngE l ⟨#[]⟩ r = QE) := hr4.1.trans (HQE.out.symm.trans HQ0.out).symm
          obtain ⟨RG, hRG⟩ : ∃ z, z = rngR l ⟨#[]⟩ r := ⟨_, rfl⟩
          subst hAT hBT
          have hRT : RG = T.extract a b := by rw [hRG, hr4.2, HT.out, ha, hbb]
          have h3a : (a : Int) ≤ (b : Int) := by omega
          have h3b : (b : Int) ≤ (T.size : Int) := by omega
          clear h0 hts h300 at0 at1 ha hra bt0 bt1 hbb hrb hr4 hpz hrz
          clear hlt
          have hlt : ¬ (b : Int) < (a : Int) := by omega
          have CR : Hid (∀ W, Below w.heap.size w W → Calls Tryd.prog 11 #[.slice q n c, .string ⟨#[]⟩] W fun e w' => e = .returned (.tuple #[.int .i64 (a : Int), ev2]) ∧ Below W.heap.size W w') := by
            intro W hb
            have := resolve_any _ l ⟨#[]⟩ W (HBK.out.below hb) HX.out HSZ.out.1
            rw [HRP.out, ← hev2] at this; exact this
          have CE2 : Hid (∀ W, Below w.heap.size w W → Calls Tryd.prog 8 #[ev2, .int .i64 KE] W fun e w' => e = .returned (.bool true) ∧ Below W.heap.size W w') := by
            intro W hb; rw [hev2]; exact err_same HPE.out w W HG.out hb
          have CW : Hid (∀ W, Below w.heap.size w W → Calls Tryd.prog 10 #[.slice q n c, .string ⟨#[]⟩] W fun e w' => e = .returned (.int .i64 (a : Int)) ∧ Below W.heap.size W w') := by
            intro W hb
            have := where_any q n c l ⟨#[]⟩ W HL.out.1 (HLI.out.below hb) HL.out.2.1 HL.out.2.2 HP0.out
            rw [HRP.out] at this; exact this
          have HRG : Hid (rngR l ⟨#[]⟩ r = T.extract a b) := hRG.symm.trans hRT
          have CG : Hid (∀ W, Below w.heap.size w W → Calls Tryd.prog 12 #[.slice q n c, .string ⟨#[]⟩, .string r] W fun e w' => e = .returned (.tuple #[.string (T.extract a b), ev3]) ∧ Below W.heap.size W w') := by
            intro W hb
            have := range_any _ l ⟨#[]⟩ r W (HBK.out.below hb) HX.out HSZ.out.1 HSZ.out.2
            rw [HRG.out, ← hev3] at this; exact this
          have CE3 : Hid (∀ W, Below w.heap.size w W → Calls Tryd.prog 8 #[ev3, .int .i64 QE] W fun e w' => e = .returned (.bool true) ∧ Below W.heap.size W w') := by
            intro W hb; rw [hev3]; exact err_same HRE.out w W HG.out hb
          have CQ : Hid (∀ W, Below w.heap.size w W → Calls Tryd.prog 9 #[.string r] W fun e w' => e = .returned (.int .i64 QE) ∧ Below W.heap.size W w') := by
            intro W hb
            have := place_ref r W HSZ.out.2
            rw [← HQC.out] at this
            refine this.mono ?_; rintro e w' ⟨rfl, h9⟩
            first | exact ⟨rfl, h9⟩ | (subst h9; exact ⟨rfl, Below.refl _ _⟩)
          have CV : Hid (∀ W, Below w.heap.size w W → Calls Tryd.prog 10 #[.slice q n c, .string r] W fun e w' => e = .returned (.int .i64 (b : Int)) ∧ Below W.heap.size W w') := by
            intro W hb
            have := where_any q n c l r W HL.out.1 (HLI.out.below hb) HL.out.2.1 HL.out.2.2 HQ0.out
            rw [HRQ.out] at this; exact this
          clear hev2 hev3 HBK HX HLI HL HSZ HG HRG HRE HPE HRP HKE HT hRG hRT
          go_wp2_with fail
          refine (CW.out _ HB4.out).mono ?_
          rintro e w5 ⟨rfl, hb5⟩
          have HB5 : Hid (Below w.heap.size w w5) := bel HB4.out hb5
          clear hb5 HB4
          go_wp2_with fail
          refine (CR.out _ HB5.out).mono ?_
          rintro e w6 ⟨rfl, hb6⟩
          have HB6 : Hid (Below w.heap.size w w6) := bel HB5.out hb6
          clear hb6 HB5
          go_wp2_with fail
          refine (CE2.out _ HB6.out).mono ?_
          rintro e w7 ⟨rfl, hb7⟩
          have HB7 : Hid (Below w.heap.size w w7) := bel HB6.out hb7
          clear hb7 HB6
          go_wp2_with fail
          refine (CQ.out _ HB7.out).mono ?_
          rintro e w8 ⟨rfl, hb8⟩
          have HB8 : Hid (Below w.heap.size w w8) := bel HB7.out hb8
          clear hb8 HB7
          go_wp2_with fail
          refine (CV.out _ HB8.out).mono ?_
          rintro e w9 ⟨rfl, hb9⟩
          have HB9 : Hid (Below w.heap.size w w9) := bel HB8.out hb9
          clear hb9 HB8
          go_wp2_with fail
          refine (CG.out _ HB9.out).mono ?_
          rintro e w10 ⟨rfl, hb10⟩
          have HB10 : Hid (Below w.heap.size w w10) := bel HB9.out hb10
          clear hb10 HB9
          go_wp2_with fail
          refine (CE3.out _ HB10.out).mono ?_
          rintro e w11 ⟨rfl, hb11⟩
          have HB11 : Hid (Below w.heap.size w w11) := bel HB10.out hb11
          clear hb11 HB10
          go_wp2_with fail
          go_ret
          exact ⟨by first | rfl | (refine ret_bool ?_; simp), HB11.out⟩
      · have hq0 : (QE == 0) = false := by simpa using hqz
        have HRE : Hid (rngE l ⟨#[]⟩ r = QE) := (rng2 HP0.out (by rw [hq1]; exact hqz)).trans hq1
        have HNZ : Hid (rngE l ⟨#[]⟩ r ≠ 0) := by unfold Hid; rw [HRE.out]; exact hqz
        clear h0 hts h300 at0 at1 ha hAT hra hq1 hqz hpz hrz
        have CR : Hid (∀ W, Below w.heap.size w W → Calls Tryd.prog 11 #[.slice q n c, .string ⟨#[]⟩] W fun e w' => e = .returned (.tuple #[.int .i64 AT, ev2]) ∧ Below W.heap.size W w') := by
          intro W hb
          have := resolve_any _ l ⟨#[]⟩ W (HBK.out.below hb) HX.out HSZ.out.1
          rw [HRP.out, ← hev2] at this; exact this
        have CE2 : Hid (∀ W, Below w.heap.size w W → Calls Tryd.prog 8 #[ev2, .int .i64 KE] W fun e w' => e = .returned (.bool true) ∧ Below W.heap.size W w') := by
          intro W hb; rw [hev2]; exact err_same HPE.out w W HG.out hb
        have CW : Hid (∀ W, Below w.heap.size w W → Calls Tryd.prog 10 #[.slice q n c, .string ⟨#[]⟩] W fun e w' => e = .returned (.int .i64 AT) ∧ Below W.heap.size W w') := by
          intro W hb
          have := where_any q n c l ⟨#[]⟩ W HL.out.1 (HLI.out.below hb) HL.out.2.1 HL.out.2.2 HP0.out
          rw [HRP.out] at this; exact this
        have HRG : Hid (rngR l ⟨#[]⟩ r = ⟨#[]⟩) := rng_bad HNZ.out
        have CG : Hid (∀ W, Below w.heap.size w W → Calls Tryd.prog 12 #[.slice q n c, .string ⟨#[]⟩, .string r] W fun e w' => e = .returned (.tuple #[.string ⟨#[]⟩, ev3]) ∧ Below W.heap.size W w') := by
          intro W hb
          have := range_any _ l ⟨#[]⟩ r W (HBK.out.below hb) HX.out HSZ.out.1 HSZ.out.2
          rw [HRG.out, ← hev3] at this; exact this
        have CE3 : Hid (∀ W, Below w.heap.size w W → Calls Tryd.prog 8 #[ev3, .int .i64 QE] W fun e w' => e = .returned (.bool true) ∧ Below W.heap.size W w') := by
          intro W hb; rw [hev3]; exact err_same HRE.out w W HG.out hb
        have CQ : Hid (∀ W, Below w.heap.size w W → Calls Tryd.prog 9 #[.string r] W fun e w' => e = .returned (.int .i64 QE) ∧ Below W.heap.size W w') := by
          intro W hb
          have := place_ref r W HSZ.out.2
          rw [← HQC.out] at this
          refine this.mono ?_; rintro e w' ⟨rfl, h9⟩
          first | exact ⟨rfl, h9⟩ | (subst h9; exact ⟨rfl, Below.refl _ _⟩)
        clear hev2 hev3 HBK HX HLI HL HSZ HG HRG HRE HPE HRP HKE HT
        go_wp2_with fail
        refine (CW.out _ HB4.out).mono ?_
        rintro e w5 ⟨rfl, hb5⟩
        have HB5 : Hid (Below w.heap.size w w5) := bel HB4.out hb5
        clear hb5 HB4
        go_wp2_with fail
        refine (CR.out _ HB5.out).mono ?_
        rintro e w6 ⟨rfl, hb6⟩
        have HB6 : Hid (Below w.heap.size w w6) := bel HB5.out hb6
        clear hb6 HB5
        go_wp2_with fail
        refine (CE2.out _ HB6.out).mono ?_
        rintro e w7 ⟨rfl, hb7⟩
        have HB7 : Hid (Below w.heap.size w w7) := bel HB6.out hb7
        clear hb7 HB6
        go_wp2_with fail
        refine (CQ.out _ HB7.out).mono ?_
        rintro e w8 ⟨rfl, hb8⟩
        have HB8 : Hid (Below w.heap.size w w8) := bel HB7.out hb8
        clear hb8 HB7
        go_wp2_with fail
        refine (CG.out _ HB8.out).mono ?_
        rintro e w9 ⟨rfl, hb9⟩
        have HB9 : Hid (Below w.heap.size w w9) := bel HB8.out hb9
        clear hb9 HB8
        go_wp2_with fail
        refine (CE3.out _ HB9.out).mono ?_
        rintro e w10 ⟨rfl, hb10⟩
        have HB10 : Hid (Below w.heap.size w w10) := bel HB9.out hb10
        clear hb10 HB9
        go_wp2_with fail
        go_ret
        exact ⟨by first | rfl | (refine ret_bool ?_; simp), HB10.out⟩
  · have hpe := ne_nil hpz
    obtain ⟨PE, hPE⟩ : ∃ z, z = Pm.chk p.toList := ⟨_, rfl⟩
    have HPC : Hid (PE = Pm.chk p.toList) := hPE
    have hp1 : resE l p = PE := by rw [hPE]; exact res_err hpz h0
    have HPE : Hid (resE l p = PE) := hp1
    clear hPE
    by_cases hpz9 : PE = 0
    · have hp0 : (PE == 0) = true := by simpa using hpz9
      have HP0 : Hid (resE l p = 0) := hp1.trans hpz9
      clear hp1 hpz9
      obtain ⟨at0, at1⟩ := resR_in HP0.out
      obtain ⟨a, ha⟩ : ∃ a : Nat, a = (resR l p).toNat := ⟨_, rfl⟩
      obtain ⟨AT, hAT⟩ : ∃ AT : Int, AT = (a : Int) := ⟨_, rfl⟩
      have hra : resR l p = AT := by omega
      have HRP : Hid (resR l p = AT) := hra
      by_cases hrz : r.size = 0
      · have hrem : r = ⟨#[]⟩ := size_nil hrz
        subst hrem
        have HQ0 : Hid (resE l ⟨#[]⟩ = 0) := (res_emp hrz).trans h0
        obtain ⟨bt0, bt1⟩ := resR_in HQ0.out
        obtain ⟨b, hbb⟩ : ∃ b : Nat, b = (resR l ⟨#[]⟩).toNat := ⟨_, rfl⟩
        obtain ⟨BT, hBT⟩ : ∃ BT : Int, BT = (b : Int) := ⟨_, rfl⟩
        have hrb : resR l ⟨#[]⟩ = BT := by omega
        have HRQ : Hid (resR l ⟨#[]⟩ = BT) := hrb
        by_cases hlt : BT < AT
        · have HRE : Hid (rngE l p ⟨#[]⟩ = 3) := rng3 HP0.out HQ0.out (by omega)
          have HNZ : Hid (rngE l p ⟨#[]⟩ ≠ 0) := by unfold Hid; rw [HRE.out]; decide
          clear h0 hts h300 at0 at1 ha hAT hra bt0 bt1 hbb hBT hrb hpz hrz
          have CR : Hid (∀ W, Below w.heap.size w W → Calls Tryd.prog 11 #[.slice q n c, .string p] W fun e w' => e = .returned (.tuple #[.int .i64 AT, ev2]) ∧ Below W.heap.size W w') := by
            intro W hb
            have := resolve_any _ l p W (HBK.out.below hb) HX.out HSZ.out.1
            rw [HRP.out, ← hev2] at this; exact this
          have CE2 : Hid (∀ W, Below w.heap.size w W → Calls Tryd.prog 8 #[ev2, .int .i64 PE] W fun e w' => e = .returned (.bool true) ∧ Below W.heap.size W w') := by
            intro W hb; rw [hev2]; exact err_same HPE.out w W HG.out hb
          have CP : Hid (∀ W, Below w.heap.size w W → Calls Tryd.prog 9 #[.string p] W fun e w' => e = .returned (.int .i64 PE) ∧ Below W.heap.size W w') := by
            intro W hb
            have := place_ref p W HSZ.out.1
            rw [← HPC.out] at this
            refine this.mono ?_; rintro e w' ⟨rfl, h9⟩
            first | exact ⟨rfl, h9⟩ | (subst h9; exact ⟨rfl, Below.refl _ _⟩)
          have CW : Hid (∀ W, Below w.heap.size w W → Calls Tryd.prog 10 #[.slice q n c, .string p] W fun e w' => e = .returned (.int .i64 AT) ∧ Below W.heap.size W w') := by
            intro W hb
            have := where_any q n c l p W HL.out.1 (HLI.out.below hb) HL.out.2.1 HL.out.2.2 HP0.out
            rw [HRP.out] at this; exact this
          have HRG : Hid (rngR l p ⟨#[]⟩ = ⟨#[]⟩) := rng_bad HNZ.out
          have CG : Hid (∀ W, Below w.heap.size w W → Calls Tryd.prog 12 #[.slice q n c, .string p, .string ⟨#[]⟩] W fun e w' => e = .returned (.tuple #[.string ⟨#[]⟩, ev3]) ∧ Below W.heap.size W w') := by
            intro W hb
            have := range_any _ l p ⟨#[]⟩ W (HBK.out.below hb) HX.out HSZ.out.1 HSZ.out.2
            rw [HRG.out, ← hev3] at this; exact this
          have CE3 : Hid (∀ W, Below w.heap.size w W → Calls Tryd.prog 8 #[ev3, .int .i64 (3 : Int)] W fun e w' => e = .returned (.bool true) ∧ Below W.heap.size W w') := by
            intro W hb; rw [hev3]; exact err_same HRE.out w W HG.out hb
          have CV : Hid (∀ W, Below w.heap.size w W → Calls Tryd.prog 10 #[.slice q n c, .string ⟨#[]⟩] W fun e w' => e = .returned (.int .i64 BT) ∧ Below W.heap.size W w') := by
            intro W hb
            have := where_any q n c l ⟨#[]⟩ W HL.out.1 (HLI.out.below hb) HL.out.2.1 HL.out.2.2 HQ0.out
            rw [HRQ.out] at this; exact this
          clear hev2 hev3 HBK HX HLI HL HSZ HG HRG HRE HPE HRP HKE HT
          go_wp2_with fail
          refine (CP.out _ HB4.out).mono ?_
          rintro e w5 ⟨rfl, hb5⟩
          have HB5 : Hid (Below w.heap.size w w5) := bel HB4.out hb5
          clear hb5 HB4
          go_wp2_with fail
          refine (CW.out _ HB5.out).mono ?_
          rintro e w6 ⟨rfl, hb6⟩
          have HB6 : Hid (Below w.heap.size w w6) := bel HB5.out hb6
          clear hb6 HB5
          go_wp2_with fail
          refine (CR.out _ HB6.out).mono ?_
          rintro e w7 ⟨rfl, hb7⟩
          have HB7 : Hid (Below w.heap.size w w7) := bel HB6.out hb7
          clear hb7 HB6
          go_wp2_with fail
          refine (CE2.out _ HB7.out).mono ?_
          rintro e w8 ⟨rfl, hb8⟩
          have HB8 : Hid (Below w.heap.size w w8) := bel HB7.out hb8
          clear hb8 HB7
          go_wp2_with fail
          refine (CV.out _ HB8.out).mono ?_
          rintro e w9 ⟨rfl, hb9⟩
          have HB9 : Hid (Below w.heap.size w w9) := bel HB8.out hb9
          clear hb9 HB8
          go_wp2_with fail
          refine (CG.out _ HB9.out).mono ?_
          rintro e w10 ⟨rfl, hb10⟩
          have HB10 : Hid (Below w.heap.size w w10) := bel HB9.out hb10
          clear hb10 HB9
          go_wp2_with fail
          refine (CE3.out _ HB10.out).mono ?_
          rintro e w11 ⟨rfl, hb11⟩
          have HB11 : Hid (Below w.heap.size w w11) := bel HB10.out hb11
          clear hb11 HB10
          go_wp2_with fail
          go_ret
          exact ⟨by first | rfl | (refine ret_bool ?_; simp), HB11.out⟩
        · have hr4 := rng4 HP0.out HQ0.out (by omega)
          have HRE : Hid (rngE l p ⟨#[]⟩ = PE) := hr4.1.trans (HPE.out.symm.trans HP0.out).symm
          obtain ⟨RG, hRG⟩ : ∃ z, z = rngR l p ⟨#[]⟩ := ⟨_, rfl⟩
          subst hAT hBT
          have hRT : RG = T.extract a b := by rw [hRG, hr4.2, HT.out, ha, hbb]
          have h3a : (a : Int) ≤ (b : Int) := by omega
          have h3b : (b : Int) ≤ (T.size : Int) := by omega
          clear h0 hts h300 at0 at1 ha hra bt0 bt1 hbb hrb hr4 hpz hrz
          clear hlt
          have hlt : ¬ (b : Int) < (a : Int) := by omega
          have CR : Hid (∀ W, Below w.heap.size w W → Calls Tryd.prog 11 #[.slice q n c, .string p] W fun e w' => e = .returned (.tuple #[.int .i64 (a : Int), ev2]) ∧ Below W.heap.size W w') := by
            intro W hb
            have := resolve_any _ l p W (HBK.out.below hb) HX.out HSZ.out.1
            rw [HRP.out, ← hev2] at this; exact this
          have CE2 : Hid (∀ W, Below w.heap.size w W → Calls Tryd.prog 8 #[ev2, .int .i64 PE] W fun e w' => e = .returned (.bool true) ∧ Below W.heap.size W w') := by
            intro W hb; rw [hev2]; exact err_same HPE.out w W HG.out hb
          have CP : Hid (∀ W, Below w.heap.size w W → Calls Tryd.prog 9 #[.string p] W fun e w' => e = .returned (.int .i64 PE) ∧ Below W.heap.size W w') := by
            intro W hb
            have := place_ref p W HSZ.out.1
            rw [← HPC.out] at this
            refine this.mono ?_; rintro e w' ⟨rfl, h9⟩
            first | exact ⟨rfl, h9⟩ | (subst h9; exact ⟨rfl, Below.refl _ _⟩)
          have CW : Hid (∀ W, Below w.heap.size w W → Calls Tryd.prog 10 #[.slice q n c, .string p] W fun e w' => e = .returned (.int .i64 (a : Int)) ∧ Below W.heap.size W w') := by
            intro W hb
            have := where_any q n c l p W HL.out.1 (HLI.out.below hb) HL.out.2.1 HL.out.2.2 HP0.out
            rw [HRP.out] at this; exact this
          have HRG : Hid (rngR l p ⟨#[]⟩ = T.extract a b) := hRG.symm.trans hRT
          have CG : Hid (∀ W, Below w.heap.size w W → Calls Tryd.prog 12 #[.slice q n c, .string p, .string ⟨#[]⟩] W fun e w' => e = .returned (.tuple #[.string (T.extract a b), ev3]) ∧ Below W.heap.size W w') := by
            intro W hb
            have := range_any _ l p ⟨#[]⟩ W (HBK.out.below hb) HX.out HSZ.out.1 HSZ.out.2
            rw [HRG.out, ← hev3] at this; exact this
          have CE3 : Hid (∀ W, Below w.heap.size w W → Calls Tryd.prog 8 #[ev3, .int .i64 PE] W fun e w' => e = .returned (.bool true) ∧ Below W.heap.size W w') := by
            intro W hb; rw [hev3]; exact err_same HRE.out w W HG.out hb
          have CV : Hid (∀ W, Below w.heap.size w W → Calls Tryd.prog 10 #[.slice q n c, .string ⟨#[]⟩] W fun e w' => e = .returned (.int .i64 (b : Int)) ∧ Below W.heap.size W w') := by
            intro W hb
            have := where_any q n c l ⟨#[]⟩ W HL.out.1 (HLI.out.below hb) HL.out.2.1 HL.out.2.2 HQ0.out
            rw [HRQ.out] at this; exact this
          clear hev2 hev3 HBK HX HLI HL HSZ HG HRG HRE HPE HRP HKE HT hRG hRT
          go_wp2_with fail
          refine (CP.out _ HB4.out).mono ?_
          rintro e w5 ⟨rfl, hb5⟩
          have HB5 : Hid (Below w.heap.size w w5) := bel HB4.out hb5
          clear hb5 HB4
          go_wp2_with fail
          refine (CW.out _ HB5.out).mono ?_
          rintro e w6 ⟨rfl, hb6⟩
          have HB6 : Hid (Below w.heap.size w w6) := bel HB5.out hb6
          clear hb6 HB5
          go_wp2_with fail
          refine (CR.out _ HB6.out).mono ?_
          rintro e w7 ⟨rfl, hb7⟩
          have HB7 : Hid (Below w.heap.size w w7) := bel HB6.out hb7
          clear hb7 HB6
          go_wp2_with fail
          refine (CE2.out _ HB7.out).mono ?_
          rintro e w8 ⟨rfl, hb8⟩
          have HB8 : Hid (Below w.heap.size w w8) := bel HB7.out hb8
          clear hb8 HB7
          go_wp2_with fail
          refine (CV.out _ HB8.out).mono ?_
          rintro e w9 ⟨rfl, hb9⟩
          have HB9 : Hid (Below w.heap.size w w9) := bel HB8.out hb9
          clear hb9 HB8
          go_wp2_with fail
          refine (CG.out _ HB9.out).mono ?_
          rintro e w10 ⟨rfl, hb10⟩
          have HB10 : Hid (Below w.heap.size w w10) := bel HB9.out hb10
          clear hb10 HB9
          go_wp2_with fail
          refine (CE3.out _ HB10.out).mono ?_
          rintro e w11 ⟨rfl, hb11⟩
          have HB11 : Hid (Below w.heap.size w w11) := bel HB10.out hb11
          clear hb11 HB10
          go_wp2_with fail
          go_ret
          exact ⟨by first | rfl | (refine ret_bool ?_; simp), HB11.out⟩
      · have hre := ne_nil hrz
        obtain ⟨QE, hQE⟩ : ∃ z, z = Pm.chk r.toList := ⟨_, rfl⟩
        have HQC : Hid (QE = Pm.chk r.toList) := hQE
        have hq1 : resE l r = QE := by rw [hQE]; exact res_err hrz h0
        have HQE : Hid (resE l r = QE) := hq1
        clear hQE
        by_cases hqz : QE = 0
        · have hq0 : (QE == 0) = true := by simpa using hqz
          have HQ9 : Hid (resE l r = 0) := hq1.trans hqz
          clear hq1 hqz
          have HQ0 : Hid (resE l r = 0) := HQ9.out
          obtain ⟨bt0, bt1⟩ := resR_in HQ0.out
          obtain ⟨b, hbb⟩ : ∃ b : Nat, b = (resR l r).toNat := ⟨_, rfl⟩
          obtain ⟨BT, hBT⟩ : ∃ BT : Int, BT = (b : Int) := ⟨_, rfl⟩
          have hrb : resR l r = BT := by omega
          have HRQ : Hid (resR l r = BT) := hrb
          by_cases hlt : BT < AT
          · have HRE : Hid (rngE l p r = 3) := rng3 HP0.out HQ0.out (by omega)
            have HNZ : Hid (rngE l p r ≠ 0) := by unfold Hid; rw [HRE.out]; decide
            clear h0 hts h300 at0 at1 ha hAT hra bt0 bt1 hbb hBT hrb hpz hrz
            have CR : Hid (∀ W, Below w.heap.size w W → Calls Tryd.prog 11 #[.slice q n c, .string p] W fun e w' => e = .returned (.tuple #[.int .i64 AT, ev2]) ∧ Below W.heap.size W w') := by
              intro W hb
              have := resolve_any _ l p W (HBK.out.below hb) HX.out HSZ.out.1
              rw [HRP.out, ← hev2] at this; exact this
            have CE2 : Hid (∀ W, Below w.heap.size w W → Calls Tryd.prog 8 #[ev2, .int .i64 PE] W fun e w' => e = .returned (.bool true) ∧ Below W.heap.size W w') := by
              intro W hb; rw [hev2]; exact err_same HPE.out w W HG.out hb
            have CP : Hid (∀ W, Below w.heap.size w W → Calls Tryd.prog 9 #[.string p] W fun e w' => e = .returned (.int .i64 PE) ∧ Below W.heap.size W w') := by
              intro W hb
              have := place_ref p W HSZ.out.1
              rw [← HPC.out] at this
              refine this.mono ?_; rintro e w' ⟨rfl, h9⟩
              first | exact ⟨rfl, h9⟩ | (subst h9; exact ⟨rfl, Below.refl _ _⟩)
            have CW : Hid (∀ W, Below w.heap.size w W → Calls Tryd.prog 10 #[.slice q n c, .string p] W fun e w' => e = .returned (.int .i64 AT) ∧ Below W.heap.size W w') := by
              intro W hb
              have := where_any q n c l p W HL.out.1 (HLI.out.below hb) HL.out.2.1 HL.out.2.2 HP0.out
              rw [HRP.out] at this; exact this
            have HRG : Hid (rngR l p r = ⟨#[]⟩) := rng_bad HNZ.out
            have CG : Hid (∀ W, Below w.heap.size w W → Calls Tryd.prog 12 #[.slice q n c, .string p, .string r] W fun e w' => e = .returned (.tuple #[.string ⟨#[]⟩, ev3]) ∧ Below W.heap.size W w') := by
              intro W hb
              have := range_any _ l p r W (HBK.out.below hb) HX.out HSZ.out.1 HSZ.out.2
              rw [HRG.out, ← hev3] at this; exact this
            have CE3 : Hid (∀ W, Below w.heap.size w W → Calls Tryd.prog 8 #[ev3, .int .i64 (3 : Int)] W fun e w' => e = .returned (.bool true) ∧ Below W.heap.size W w') := by
              intro W hb; rw [hev3]; exact err_same HRE.out w W HG.out hb
            have CQ : Hid (∀ W, Below w.heap.size w W → Calls Tryd.prog 9 #[.string r] W fun e w' => e = .returned (.int .i64 QE) ∧ Below W.heap.size W w') := by
              intro W hb
              have := place_ref r W HSZ.out.2
              rw [← HQC.out] at this
              refine this.mono ?_; rintro e w' ⟨rfl, h9⟩
              first | exact ⟨rfl, h9⟩ | (subst h9; exact ⟨rfl, Below.refl _ _⟩)
            have CV : Hid (∀ W, Below w.heap.size w W → Calls Tryd.prog 10 #[.slice q n c, .string r] W fun e w' => e = .returned (.int .i64 BT) ∧ Below W.heap.size W w') := by
              intro W hb
              have := where_any q n c l r W HL.out.1 (HLI.out.below hb) HL.out.2.1 HL.out.2.2 HQ0.out
              rw [HRQ.out] at this; exact this
            clear hev2 hev3 HBK HX HLI HL HSZ HG HRG HRE HPE HRP HKE HT
            go_wp2_with fail
            refine (CP.out _ HB4.out).mono ?_
            rintro e w5 ⟨rfl, hb5⟩
            have HB5 : Hid (Below w.heap.size w w5) := bel HB4.out hb5
            clear hb5 HB4
            go_wp2_with fail
            refine (CW.out _ HB5.out).mono ?_
            rintro e w6 ⟨rfl, hb6⟩
            have HB6 : Hid (Below w.heap.size w w6) := bel HB5.out hb6
            clear hb6 HB5
            go_wp2_with fail
            refine (CR.out _ HB6.out).mono ?_
            rintro e w7 ⟨rfl, hb7⟩
            have HB7 : Hid (Below w.heap.size w w7) := bel HB6.out hb7
            clear hb7 HB6
            go_wp2_with fail
            refine (CE2.out _ HB7.out).mono ?_
            rintro e w8 ⟨rfl, hb8⟩
            have HB8 : Hid (Below w.heap.size w w8) := bel HB7.out hb8
            clear hb8 HB7
            go_wp2_with fail
            refine (CQ.out _ HB8.out).mono ?_
            rintro e w9 ⟨rfl, hb9⟩
            have HB9 : Hid (Below w.heap.size w w9) := bel HB8.out hb9
            clear hb9 HB8
            go_wp2_with fail
            refine (CV.out _ HB9.out).mono ?_
            rintro e w10 ⟨rfl, hb10⟩
            have HB10 : Hid (Below w.heap.size w w10) := bel HB9.out hb10
            clear hb10 HB9
            go_wp2_with fail
            refine (CG.out _ HB10.out).mono ?_
            rintro e w11 ⟨rfl, hb11⟩
            have HB11 : Hid (Below w.heap.size w w11) := bel HB10.out hb11
            clear hb11 HB10
            go_wp2_with fail
            refine (CE3.out _ HB11.out).mono ?_
            rintro e w12 ⟨rfl, hb12⟩
            have HB12 : Hid (Below w.heap.size w w12) := bel HB11.out hb12
            clear hb12 HB11
            go_wp2_with fail
            go_ret
            exact ⟨by first | rfl | (refine ret_bool ?_; simp), HB12.out⟩
          · have hr4 := rng4 HP0.out HQ0.out (by omega)
            have HRE : Hid (rngE l p r = QE) := hr4.1.trans (HQE.out.symm.trans HQ0.out).symm
            obtain ⟨RG, hRG⟩ : ∃ z, z = rngR l p r := ⟨_, rfl⟩
            subst hAT hBT
            have hRT : RG = T.extract a b := by rw [hRG, hr4.2, HT.out, ha, hbb]
            have h3a : (a : Int) ≤ (b : Int) := by omega
            have h3b : (b : Int) ≤ (T.size : Int) := by omega
            clear h0 hts h300 at0 at1 ha hra bt0 bt1 hbb hrb hr4 hpz hrz
            clear hlt
            have hlt : ¬ (b : Int) < (a : Int) := by omega
            have CR : Hid (∀ W, Below w.heap.size w W → Calls Tryd.prog 11 #[.slice q n c, .string p] W fun e w' => e = .returned (.tuple #[.int .i64 (a : Int), ev2]) ∧ Below W.heap.size W w') := by
              intro W hb
              have := resolve_any _ l p W (HBK.out.below hb) HX.out HSZ.out.1
              rw [HRP.out, ← hev2] at this; exact this
            have CE2 : Hid (∀ W, Below w.heap.size w W → Calls Tryd.prog 8 #[ev2, .int .i64 PE] W fun e w' => e = .returned (.bool true) ∧ Below W.heap.size W w') := by
              intro W hb; rw [hev2]; exact err_same HPE.out w W HG.out hb
            have CP : Hid (∀ W, Below w.heap.size w W → Calls Tryd.prog 9 #[.string p] W fun e w' => e = .returned (.int .i64 PE) ∧ Below W.heap.size W w') := by
              intro W hb
              have := place_ref p W HSZ.out.1
              rw [← HPC.out] at this
              refine this.mono ?_; rintro e w' ⟨rfl, h9⟩
              first | exact ⟨rfl, h9⟩ | (subst h9; exact ⟨rfl, Below.refl _ _⟩)
            have CW : Hid (∀ W, Below w.heap.size w W → Calls Tryd.prog 10 #[.slice q n c, .string p] W fun e w' => e = .returned (.int .i64 (a : Int)) ∧ Below W.heap.size W w') := by
              intro W hb
              have := where_any q n c l p W HL.out.1 (HLI.out.below hb) HL.out.2.1 HL.out.2.2 HP0.out
              rw [HRP.out] at this; exact this
            have HRG : Hid (rngR l p r = T.extract a b) := hRG.symm.trans hRT
            have CG : Hid (∀ W, Below w.heap.size w W → Calls Tryd.prog 12 #[.slice q n c, .string p, .string r] W fun e w' => e = .returned (.tuple #[.string (T.extract a b), ev3]) ∧ Below W.heap.size W w') := by
              intro W hb
              have := range_any _ l p r W (HBK.out.below hb) HX.out HSZ.out.1 HSZ.out.2
              rw [HRG.out, ← hev3] at this; exact this
            have CE3 : Hid (∀ W, Below w.heap.size w W → Calls Tryd.prog 8 #[ev3, .int .i64 QE] W fun e w' => e = .returned (.bool true) ∧ Below W.heap.size W w') := by
              intro W hb; rw [hev3]; exact err_same HRE.out w W HG.out hb
            have CQ : Hid (∀ W, Below w.heap.size w W → Calls Tryd.prog 9 #[.string r] W fun e w' => e = .returned (.int .i64 QE) ∧ Below W.heap.size W w') := by
              intro W hb
              have := place_ref r W HSZ.out.2
              rw [← HQC.out] at this
              refine this.mono ?_; rintro e w' ⟨rfl, h9⟩
              first | exact ⟨rfl, h9⟩ | (subst h9; exact ⟨rfl, Below.refl _ _⟩)
            have CV : Hid (∀ W, Below w.heap.size w W → Calls Tryd.prog 10 #[.slice q n c, .string r] W fun e w' => e = .returned (.int .i64 (b : Int)) ∧ Below W.heap.size W w') := by
              intro W hb
              have := where_any q n c l r W HL.out.1 (HLI.out.below hb) HL.out.2.1 HL.out.2.2 HQ0.out
              rw [HRQ.out] at this; exact this
            clear hev2 hev3 HBK HX HLI HL HSZ HG HRG HRE HPE HRP HKE HT hRG hRT
            go_wp2_with fail
            refine (CP.out _ HB4.out).mono ?_
            rintro e w5 ⟨rfl, hb5⟩
            have HB5 : Hid (Below w.heap.size w w5) := bel HB4.out hb5
            clear hb5 HB4
            go_wp2_with fail
            refine (CW.out _ HB5.out).mono ?_
            rintro e w6 ⟨rfl, hb6⟩
            have HB6 : Hid (Below w.heap.size w w6) := bel HB5.out hb6
            clear hb6 HB5
            go_wp2_with fail
            refine (CR.out _ HB6.out).mono ?_
            rintro e w7 ⟨rfl, hb7⟩
            have HB7 : Hid (Below w.heap.size w w7) := bel HB6.out hb7
            clear hb7 HB6
            go_wp2_with fail
            refine (CE2.out _ HB7.out).mono ?_
            rintro e w8 ⟨rfl, hb8⟩
            have HB8 : Hid (Below w.heap.size w w8) := bel HB7.out hb8
            clear hb8 HB7
            go_wp2_with fail
            refine (CQ.out _ HB8.out).mono ?_
            rintro e w9 ⟨rfl, hb9⟩
            have HB9 : Hid (Below w.heap.size w w9) := bel HB8.out hb9
            clear hb9 HB8
            go_wp2_with fail
            refine (CV.out _ HB9.out).mono ?_
            rintro e w10 ⟨rfl, hb10⟩
            have HB10 : Hid (Below w.heap.size w w10) := bel HB9.out hb10
            clear hb10 HB9
            go_wp2_with fail
            refine (CG.out _ HB10.out).mono ?_
            rintro e w11 ⟨rfl, hb11⟩
            have HB11 : Hid (Below w.heap.size w w11) := bel HB10.out hb11
            clear hb11 HB10
            go_wp2_with fail
            refine (CE3.out _ HB11.out).mono ?_
            rintro e w12 ⟨rfl, hb12⟩
            have HB12 : Hid (Below w.heap.size w w12) := bel HB11.out hb12
            clear hb12 HB11
            go_wp2_with fail
            go_ret
            exact ⟨by first | rfl | (refine ret_bool ?_; simp), HB12.out⟩
        · have hq0 : (QE == 0) = false := by simpa using hqz
          have HRE : Hid (rngE l p r = QE) := (rng2 HP0.out (by rw [hq1]; exact hqz)).trans hq1
          have HNZ : Hid (rngE l p r ≠ 0) := by unfold Hid; rw [HRE.out]; exact hqz
          clear h0 hts h300 at0 at1 ha hAT hra hq1 hqz hpz hrz
          have CR : Hid (∀ W, Below w.heap.size w W → Calls Tryd.prog 11 #[.slice q n c, .string p] W fun e w' => e = .returned (.tuple #[.int .i64 AT, ev2]) ∧ Below W.heap.size W w') := by
            intro W hb
            have := resolve_any _ l p W (HBK.out.below hb) HX.out HSZ.out.1
            rw [HRP.out, ← hev2] at this; exact this
          have CE2 : Hid (∀ W, Below w.heap.size w W → Calls Tryd.prog 8 #[ev2, .int .i64 PE] W fun e w' => e = .returned (.bool true) ∧ Below W.heap.size W w') := by
            intro W hb; rw [hev2]; exact err_same HPE.out w W HG.out hb
          have CP : Hid (∀ W, Below w.heap.size w W → Calls Tryd.prog 9 #[.string p] W fun e w' => e = .returned (.int .i64 PE) ∧ Below W.heap.size W w') := by
            intro W hb
            have := place_ref p W HSZ.out.1
            rw [← HPC.out] at this
            refine this.mono ?_; rintro e w' ⟨rfl, h9⟩
            first | exact ⟨rfl, h9⟩ | (subst h9; exact ⟨rfl, Below.refl _ _⟩)
          have CW : Hid (∀ W, Below w.heap.size w W → Calls Tryd.prog 10 #[.slice q n c, .string p] W fun e w' => e = .returned (.int .i64 AT) ∧ Below W.heap.size W w') := by
            intro W hb
            have := where_any q n c l p W HL.out.1 (HLI.out.below hb) HL.out.2.1 HL.out.2.2 HP0.out
            rw [HRP.out] at this; exact this
          have HRG : Hid (rngR l p r = ⟨#[]⟩) := rng_bad HNZ.out
          have CG : Hid (∀ W, Below w.heap.size w W → Calls Tryd.prog 12 #[.slice q n c, .string p, .string r] W fun e w' => e = .returned (.tuple #[.string ⟨#[]⟩, ev3]) ∧ Below W.heap.size W w') := by
            intro W hb
            have := range_any _ l p r W (HBK.out.below hb) HX.out HSZ.out.1 HSZ.out.2
            rw [HRG.out, ← hev3] at this; exact this
          have CE3 : Hid (∀ W, Below w.heap.size w W → Calls Tryd.prog 8 #[ev3, .int .i64 QE] W fun e w' => e = .returned (.bool true) ∧ Below W.heap.size W w') := by
            intro W hb; rw [hev3]; exact err_same HRE.out w W HG.out hb
          have CQ : Hid (∀ W, Below w.heap.size w W → Calls Tryd.prog 9 #[.string r] W fun e w' => e = .returned (.int .i64 QE) ∧ Below W.heap.size W w') := by
            intro W hb
            have := place_ref r W HSZ.out.2
            rw [← HQC.out] at this
            refine this.mono ?_; rintro e w' ⟨rfl, h9⟩
            first | exact ⟨rfl, h9⟩ | (subst h9; exact ⟨rfl, Below.refl _ _⟩)
          clear hev2 hev3 HBK HX HLI HL HSZ HG HRG HRE HPE HRP HKE HT
          go_wp2_with fail
          refine (CP.out _ HB4.out).mono ?_
          rintro e w5 ⟨rfl, hb5⟩
          have HB5 : Hid (Below w.heap.size w w5) := bel HB4.out hb5
          clear hb5 HB4
          go_wp2_with fail
          refine (CW.out _ HB5.out).mono ?_
          rintro e w6 ⟨rfl, hb6⟩
          have HB6 : Hid (Below w.heap.size w w6) := bel HB5.out hb6
          clear hb6 HB5
          go_wp2_with fail
          refine (CR.out _ HB6.out).mono ?_
          rintro e w7 ⟨rfl, hb7⟩
          have HB7 : Hid (Below w.heap.size w w7) := bel HB6.out hb7
          clear hb7 HB6
          go_wp2_with fail
          refine (CE2.out _ HB7.out).mono ?_
          rintro e w8 ⟨rfl, hb8⟩
          have HB8 : Hid (Below w.heap.size w w8) := bel HB7.out hb8
          clear hb8 HB7
          go_wp2_with fail
          refine (CQ.out _ HB8.out).mono ?_
          rintro e w9 ⟨rfl, hb9⟩
          have HB9 : Hid (Below w.heap.size w w9) := bel HB8.out hb9
          clear hb9 HB8
          go_wp2_with fail
          refine (CG.out _ HB9.out).mono ?_
          rintro e w10 ⟨rfl, hb10⟩
          have HB10 : Hid (Below w.heap.size w w10) := bel HB9.out hb10
          clear hb10 HB9
          go_wp2_with fail
          refine (CE3.out _ HB10.out).mono ?_
          rintro e w11 ⟨rfl, hb11⟩
          have HB11 : Hid (Below w.heap.size w w11) := bel HB10.out hb11
          clear hb11 HB10
          go_wp2_with fail
          go_ret
          exact ⟨by first | rfl | (refine ret_bool ?_; simp), HB11.out⟩
    · have hp0 : (PE == 0) = false := by simpa using hpz9
      have hz : resE l p ≠ 0 := by rw [hp1]; exact hpz9
      have HRP : Hid (resR l p = 0) := res_wrong hz
      have HRE : Hid (rngE l p r = PE) := (rng1 hz).trans hp1
      have HNZ : Hid (rngE l p r ≠ 0) := by unfold Hid; rw [rng1 hz]; exact hz
      clear h0 hts h300 hp1 hpz9 hz hpz
      have CR : Hid (∀ W, Below w.heap.size w W → Calls Tryd.prog 11 #[.slice q n c, .string p] W fun e w' => e = .returned (.tuple #[.int .i64 (0 : Int), ev2]) ∧ Below W.heap.size W w') := by
        intro W hb
        have := resolve_any _ l p W (HBK.out.below hb) HX.out HSZ.out.1
        rw [HRP.out, ← hev2] at this; exact this
      have CE2 : Hid (∀ W, Below w.heap.size w W → Calls Tryd.prog 8 #[ev2, .int .i64 PE] W fun e w' => e = .returned (.bool true) ∧ Below W.heap.size W w') := by
        intro W hb; rw [hev2]; exact err_same HPE.out w W HG.out hb
      have CP : Hid (∀ W, Below w.heap.size w W → Calls Tryd.prog 9 #[.string p] W fun e w' => e = .returned (.int .i64 PE) ∧ Below W.heap.size W w') := by
        intro W hb
        have := place_ref p W HSZ.out.1
        rw [← HPC.out] at this
        refine this.mono ?_; rintro e w' ⟨rfl, h9⟩
        first | exact ⟨rfl, h9⟩ | (subst h9; exact ⟨rfl, Below.refl _ _⟩)
      have HRG : Hid (rngR l p r = ⟨#[]⟩) := rng_bad HNZ.out
      have CG : Hid (∀ W, Below w.heap.size w W → Calls Tryd.prog 12 #[.slice q n c, .string p, .string r] W fun e w' => e = .returned (.tuple #[.string ⟨#[]⟩, ev3]) ∧ Below W.heap.size W w') := by
        intro W hb
        have := range_any _ l p r W (HBK.out.below hb) HX.out HSZ.out.1 HSZ.out.2
        rw [HRG.out, ← hev3] at this; exact this
      have CE3 : Hid (∀ W, Below w.heap.size w W → Calls Tryd.prog 8 #[ev3, .int .i64 PE] W fun e w' => e = .returned (.bool true) ∧ Below W.heap.size W w') := by
        intro W hb; rw [hev3]; exact err_same HRE.out w W HG.out hb
      clear hev2 hev3 HBK HX HLI HL HSZ HG HRG HRE HPE HRP HKE HT
      go_wp2_with fail
      refine (CP.out _ HB4.out).mono ?_
      rintro e w5 ⟨rfl, hb5⟩
      have HB5 : Hid (Below w.heap.size w w5) := bel HB4.out hb5
      clear hb5 HB4
      go_wp2_with fail
      refine (CR.out _ HB5.out).mono ?_
      rintro e w6 ⟨rfl, hb6⟩
      have HB6 : Hid (Below w.heap.size w w6) := bel HB5.out hb6
      clear hb6 HB5
      go_wp2_with fail
      refine (CE2.out _ HB6.out).mono ?_
      rintro e w7 ⟨rfl, hb7⟩
      have HB7 : Hid (Below w.heap.size w w7) := bel HB6.out hb7
      clear hb7 HB6
      go_wp2_with fail
      refine (CG.out _ HB7.out).mono ?_
      rintro e w8 ⟨rfl, hb8⟩
      have HB8 : Hid (Below w.heap.size w w8) := bel HB7.out hb8
      clear hb8 HB7
      go_wp2_with fail
      refine (CE3.out _ HB8.out).mono ?_
      rintro e w9 ⟨rfl, hb9⟩
      have HB9 : Hid (Below w.heap.size w w9) := bel HB8.out hb9
      clear hb9 HB8
      go_wp2_with fail
      go_ret
      exact ⟨by first | rfl | (refine ret_bool ?_; simp), HB9.out⟩

end Cd
end Go.Proofs.YtcmoajlcmeimiacDoor
