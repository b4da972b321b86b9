/- The reference's Maker.insert where the text is right, and Insert. -/
import Derived.Test.YtnniggjeadlbgaaGreatDoorUt
import Derived.Deep.DeepCutAuto
namespace Go.Proofs.YtnniggjeadlbgaaGreatDoor
namespace Uu
set_option linter.unusedVariables false
set_option linter.unusedSimpArgs false
open Go.ChangeShapes Go.WideShapes Go.ChangeAt Go.RowKit Cm Ka Kb Na Om Oa Oz Oc Og Oi Hm Ia Ib Ic Idc Ie If Ig Ih Ii Ij Ik Il Im Um Ua Ub Uc Ud Ue Uf Xa Us Ut
open La (bel bel_drew errV_zero errV_ne own_ge own_grow own_below Lies LeafsIn)
open Lj (BookAt BookNew)
open Xg (Parts)

theorem text_len (l : List Bm.Leaf) : (⟨(Bm.text l).toArray⟩ : ByteArray).size = (seenP l).length := by
  rw [seenP_len, ← Om.len_eq, toList_mk]
theorem nth_pos {l : List Bm.Leaf} {r : Nat} (h : r < (seenP l).length) : ∃ i : Nat, Bm.nth l 0 (r : Int) = i ∧ i < l.length ∧ (l.getD i Bm.none0).1 = (seenP l).getD r ⟨#[]⟩ ∧ nxt l (r + 1) = i + 1 := by
  obtain ⟨A, x, B, rfl, hx, hr⟩ := split_seen l r h
  obtain ⟨h1, h2, h3⟩ := at_parts (A := A) (B := B) hx
  rw [hr] at h1 h3
  refine ⟨A.length, h1, by simp, by rw [h2, h3], ?_⟩
  unfold nxt
  rw [if_neg (by omega), show (((r + 1 : Nat) : Int) - 1) = (r : Int) by omega, h1]; simp

set_option maxRecDepth 100000 in
set_option maxHeartbeats 8000000 in
theorem insert_some (t : ByteArray) (M : Nat) (off : Int) (b0 oo0 : Nat) (m c : Nat) (B : Nat) (who n : Int) (l : List Bm.Leaf) (w : World) (h : MkAt B w M who n (.slice none 0 0) []) (hk : textE t = 0) (hbk : ∀ W, Below B w W → BookAt W (.slice (some ⟨b0, oo0, none⟩) m c) l) (hb0 : Bm.bookE l = 0) (h1 : 1 ≤ who) (h8 : who ≤ 8) (hB : B ≤ w.heap.size) (hn0 : 0 ≤ n) (hn1 : n ≤ 400) :
    Calls Tryz.prog 62 #[.pointer (some ⟨M, 0, none⟩), .slice (some ⟨b0, oo0, none⟩) m c, .int .i64 off, .string t] w (MkPost B w M who (insK l who off t) (insLs (leftP l off.toNat) (rightP l off.toNat) who n t t.size)) := by
  obtain ⟨ht2, hok⟩ := textE_zero.1 hk
  have HMK : Hid (MkAt B w M who n (.slice none 0 0) []) := h
  have HBK : Hid (∀ W, Below B w W → LeafsIn W (some ⟨b0, oo0, none⟩) l) := fun W hb => by
    obtain ⟨p9, c9, e9, hin, _⟩ := hbk W hb
    injection e9 with e1 e2 e3
    rw [e1]; exact hin
  have hml : m = l.length := by
    obtain ⟨p9, c9, e9, hin, _⟩ := hbk w (Below.refl _ _)
    injection e9
  have HML : Hid (l.length = m) := hml.symm
  have hl3 := (Bm.bookE_zero.1 hb0).1
  have hm3 : m ≤ 300 := by omega
  have HRS : Hid (Bm.Rise l) := (Bm.bookE_zero.1 hb0).2.2
  have CT : Hid (∀ W, Below B w W → Calls Tryz.prog 23 #[.slice (some ⟨b0, oo0, none⟩) m c] W fun e w' => e = .returned (.string ⟨(Bm.text l).toArray⟩) ∧ Below W.heap.size W w') := fun W hb => Mb.text_ref (some ⟨b0, oo0, none⟩) m c l W HML.out (HBK.out W hb) (Lf.book_ok hb0).2.2 (by omega)
  have CN : Hid (∀ W f, Below B w W → 0 ≤ f → Calls Tryz.prog 70 #[.slice (some ⟨b0, oo0, none⟩) m c, .int .i64 f] W fun e w' => e = .returned (.int .i64 (Bm.nth l 0 f)) ∧ Below W.heap.size W w') := fun W f hb hf => Mb.nth_ref (some ⟨b0, oo0, none⟩) m c l f W HML.out (HBK.out W hb) (by omega) hf
  have HE : Hid (insK l who off t = if aroundE l off ≠ 0 then 1 else rowE (leftP l off.toNat) (rightP l off.toNat) who t.size) := by unfold Hid insK; rw [if_neg (by simpa using hk)]
  have HSM : Hid ((leftP l off.toNat).size ≤ 12 ∧ (rightP l off.toNat).size ≤ 12) := by
    have := left_small (S := ⟨l, [], [], []⟩) hb0 off.toNat
    exact ⟨this.1, this.2.1⟩
  have HSL : Hid ((⟨(Bm.text l).toArray⟩ : ByteArray).size = (seenP l).length) := text_len l
  have hsl3 : (seenP l).length ≤ 300 := by have := seenP_le l; omega
  obtain ⟨tl, htl⟩ : ∃ tl : ByteArray, tl = ⟨(Bm.text l).toArray⟩ := ⟨_, rfl⟩
  rw [← htl] at CT HSL
  have htl3 : tl.size ≤ 300 := by have := HSL.out; omega
  have HBW : Hid (B ≤ w.heap.size) := hB
  have HNB : Hid (0 ≤ n ∧ n ≤ 400) := ⟨hn0, hn1⟩
  have HOK : Hid (∀ k, k < t.size → Bm.isL ((t.toList.getD k 0).toNat : Int) = true) := fun k hk9 => let_at hok hk9
  have hsz : ¬ (200 : Int) < t.size := by omega
  clear h hbk hb0 hk hml hl3 htl hok hB hn0 hn1
  go_enter Tryz.func62, Tryz.ntmps62
  go_wp2_with fail
  go_loopw [9] (fun i wr => ∃ (k : Nat), k ≤ t.size ∧ i = .int .i64 k ∧ Hid (wr = w)) (fun i _ => t.size - (intOf i).toNat)
  case atStart => exact ⟨0, by omega, rfl, rfl⟩
  case round =>
    obtain ⟨k, hk, rfl, HW⟩ := hrel
    by_cases hlt : k < t.size
    · have hltz : (k : Int) < t.size := by omega
      have hx255 : ((t[k]'hlt).toNat : Int) ≤ 255 := by have := (t[k]'hlt).toNat_lt; omega
      have CL := Lp.letter_ref ((t[k]'hlt).toNat : Int) wr
      have hb := HOK.out k hlt
      rw [byte_at t k hlt] at hb
      rw [hb] at CL
      clear hb
      go_wp2_with fail
      refine CL.mono ?_
      rintro e w2 ⟨rfl, hw⟩
      have HW2 : Hid (w2 = w) := hw.trans HW.out
      clear hw CL
      go_wp2_with fail
      go_roundw
      case rel => exact ⟨k + 1, by omega, by go_num, HW2⟩
      case measure => simp [intOf]; omega
    · have hltz : ¬ (k : Int) < t.size := by omega
      have HBr : Hid (Below B w wr) := by unfold Hid; rw [HW.out]; exact Below.refl _ _
      have HMr : Hid (MkAt B wr M who n (.slice none 0 0) []) := by unfold Hid; rw [HW.out]; exact HMK.out
      clear HW HMK
      by_cases ha : 0 ≤ off ∧ off ≤ (seenP l).length
      case neg =>
        have hae : aroundE l off ≠ 0 := fun e => ha (aroundE_zero.1 e)
        have HE1 : Hid (insK l who off t = 1) := by unfold Hid; rw [HE.out, if_pos hae]
        have hor : off < 0 ∨ (¬ off < 0 ∧ (tl.size : Int) < off) := by have := HSL.out; omega
        clear ha hae
        rcases hor with ho | ⟨ho, ho2⟩
        · go_wp2_with fail
          go_ret
          exact ⟨by rw [HE1.out]; rfl, ⟨_, _, _, HMr.out, fun e => absurd e (by rw [HE1.out]; decide)⟩, HBr.out⟩
        · go_wp2_with fail
          refine (CT.out wr HBr.out).mono ?_
          rintro e w2 ⟨rfl, hb2⟩
          have HB2 : Hid (Below B w w2) := HBr.out.trans (hb2.mono (Nat.le_trans HBW.out HBr.out.size))
          have HM2 : Hid (MkAt B w2 M who n (.slice none 0 0) []) := HMr.out.below hb2
          clear hb2
          go_wp2_with fail
          go_ret
          exact ⟨by rw [HE1.out]; rfl, ⟨_, _, _, HM2.out, fun e => absurd e (by rw [HE1.out]; decide)⟩, HB2.out⟩
      case pos =>
      obtain ⟨ha0, ha1⟩ := ha
      obtain ⟨o, rfl⟩ : ∃ o : Nat, off = o := ⟨off.toNat, by omega⟩
      have hos : o ≤ (seenP l).length := by omega
      have ho0 : ¬ (o : Int) < 0 := by omega
      have ho1 : ¬ (tl.size : Int) < o := by have := HSL.out; omega
      have HE0 : Hid (insK l who (o : Int) t = rowE (leftP l o) (rightP l o) who t.size) := by
        unfold Hid; rw [HE.out, if_neg (by rw [aroundE_zero.2 ⟨ha0, ha1⟩]; simp), Int.toNat_natCast]
      rw [Int.toNat_natCast] at HSM ⊢
      have HX : Hid (∀ x, x = nxt l o → x ≤ m) := fun x hx => by rw [hx, ← HML.out]; exact (cut_off hos).le
      have hR1 : nxt l o < m → rightP l o = (l.getD (nxt l o) Bm.none0).1 := fun hlt9 => by unfold rightP; rw [HML.out, if_pos hlt9]
      have hR2 : ¬ nxt l o < m → rightP l o = ⟨#[]⟩ := fun hlt9 => by unfold rightP; rw [HML.out, if_neg hlt9]
      obtain ⟨x, hx⟩ : ∃ x, x = nxt l o := ⟨_, rfl⟩
      rw [← hx] at hR1 hR2
      obtain ⟨R, hRR⟩ : ∃ R, R = rightP l o := ⟨_, rfl⟩
      have HRPE : Hid (R = rightP l o) := hRR
      rw [← hRR] at hR1 hR2 HE0 HSM ⊢
      have HR1 : Hid (x < m → R = (l.getD x Bm.none0).1) := hR1
      have HR2 : Hid (¬ x < m → R = ⟨#[]⟩) := hR2
      have hxm : x ≤ m := HX.out x hx
      have HPLACE : Hid (∀ W i, Below B w W → i < m → W.cell? ⟨b0, oo0 + i * 3, none⟩ = some (.string (l.getD i Bm.none0).1)) := fun W i hb hi => by
        obtain ⟨b, oo, e, hc⟩ := (HBK.out W hb).some (by intro e; have := HML.out; rw [e] at this; simp at this; omega)
        injection e with e
        injection e with e1 e2
        rw [e1, e2]
        exact (hc i (by rw [HML.out]; exact hi)).1
      clear hR1 hR2 HE hRR HX
      go_wp2_with fail
      refine (CT.out wr HBr.out).mono ?_
      rintro e w2 ⟨rfl, hb2⟩
      have HB2 : Hid (Below B w w2) := HBr.out.trans (hb2.mono (Nat.le_trans HBW.out HBr.out.size))
      have HM2 : Hid (MkAt B w2 M who n (.slice none 0 0) []) := HMr.out.below hb2
      clear hb2 HBr HMr CT
      obtain ⟨Lp, hLp⟩ : ∃ Lp, Lp = leftP l o := ⟨_, rfl⟩
      rw [← hLp] at HE0 HSM ⊢
      have HL0 : Hid (o = 0 → Lp = ⟨#[]⟩ ∧ x = 0) := fun e => by rw [hLp, hx]; unfold leftP nxt; rw [if_pos e, if_pos e]; exact ⟨rfl, rfl⟩
      have HL1 : Hid (0 < o → ∃ i : Nat, Bm.nth l 0 ((o : Int) - 1) = i ∧ i < m ∧ (l.getD i Bm.none0).1 = Lp ∧ x = i + 1) := fun e => by
        obtain ⟨i, e1, e2, e3, e4⟩ := nth_pos (l := l) (r := o - 1) (by omega)
        rw [show (((o - 1 : Nat) : Int)) = (o : Int) - 1 by omega] at e1
        rw [show o - 1 + 1 = o by omega] at e4
        exact ⟨i, e1, by rw [← HML.out]; exact e2, by rw [e3, hLp]; exact (left_at e).symm, by rw [hx]; exact e4⟩
      have HLPE : Hid (Lp = leftP l o) := hLp
      clear hLp hx
      go_upto_if 43 with fail
      go_cut [11, 12] from 17 to 54 (fun s11 s12 wx => s11 = .int .i64 x ∧ s12 = .string Lp ∧ Hid (Below w2.heap.size w2 wx))
      case first =>
        by_cases h0 : o = 0
        · obtain ⟨e1, e2⟩ := HL0.out h0
          subst e1 e2 h0
          go_wp2_with fail
          go_meet
          case rel => exact ⟨rfl, rfl, Below.refl _ _⟩
        · have h0p : 0 < o := by omega
          have h0z : (0 : Int) < o := by omega
          obtain ⟨i, e1, e2, e3, e4⟩ := HL1.out h0p
          have CN2 := CN.out w2 ((o : Int) - 1) HB2.out (by omega)
          rw [e1] at CN2
          have hi3 : (i : Int) ≤ 300 := by omega
          have himz : (i : Int) < m := by omega
          have HIX : Hid (x = i + 1) := e4
          have HIP : Hid ((l.getD i Bm.none0).1 = Lp) := e3
          clear e1 e3 e4 HL0 HL1
          go_wp2_with fail
          refine CN2.mono ?_
          rintro e w3 ⟨rfl, hb3⟩
          have HB3 : Hid (Below w2.heap.size w2 w3) := hb3
          have hcell := HPLACE.out w3 i (HB2.out.trans (hb3.mono (Nat.le_trans HBW.out HB2.out.size))) e2
          rw [HIP.out] at hcell
          clear CN2 hb3
          go_wp2_with fail
          go_meet
          case rel => exact ⟨by rw [HIX.out]; go_num, rfl, HB3⟩
      case rest =>
      obtain ⟨rfl, rfl, HB3⟩ := hcut
      have HB3w : Hid (Below B w wc) := HB2.out.trans (HB3.out.mono (Nat.le_trans HBW.out HB2.out.size))
      have HM3 : Hid (MkAt B wc M who n (.slice none 0 0) []) := HM2.out.below HB3.out
      obtain ⟨w3, hw3⟩ : ∃ w3, w3 = wc := ⟨_, rfl⟩
      have HBW3 : Hid (Below B w w3) := by unfold Hid; rw [hw3]; exact HB3w.out
      have HMW3 : Hid (MkAt B w3 M who n (.slice none 0 0) []) := by unfold Hid; rw [hw3]; exact HM3.out
      clear HB3 HB2 HM2 HL0 HL1
      go_upto_if 58 with fail
      go_cut [13] from 17 to 63 (fun s13 wx => s13 = .string R ∧ w3 = wx)
      case first =>
        by_cases hxm2 : x < m
        · have hxz : (x : Int) < m := by omega
          have hcell := HPLACE.out wc x HB3w.out hxm2
          rw [← HR1.out hxm2] at hcell
          go_wp2_with fail
          go_meet
          case rel => exact ⟨rfl, hw3⟩
        · have hxz : ¬ (x : Int) < m := by omega
          have e9 := HR2.out hxm2
          subst e9
          go_wp2_with fail
          go_meet
          case rel => exact ⟨rfl, hw3⟩
      case rest =>
      obtain ⟨rfl, hw9⟩ := hcut
      rw [← hw9]
      clear hw9 hw3 HB3w HM3 HPLACE CN HBK
      go_wp2_with fail
      go_loopw [12, 14] (fun vl vi wr => ∃ (j : Nat) (v : Value) (L : List (Ox × Value)), j ≤ t.size ∧ vi = .int .i64 j ∧ vl = .string (nthP Lp R who j) ∧ Hid (rowE Lp R who j = 0) ∧ Hid (MkAt B wr M who (n + j) v L) ∧ Hid (L.map (·.1) = insLs Lp R who n t j) ∧ Hid (Below B w wr)) (fun _ vi _ => t.size - (intOf vi).toNat)
      case atStart => exact ⟨0, .slice none 0 0, [], by omega, rfl, rfl, rfl, by have h9 := HMW3.out; rw [show n + ((0 : Nat) : Int) = n by omega]; exact h9, rfl, HBW3⟩
      case round =>
        clear HMW3 HBW3
        obtain ⟨j, v, L, hj, rfl, rfl, HR, HMj, HLj, HBj⟩ := hrel
        by_cases hjt : j < t.size
        · have hjz : (j : Int) < t.size := by omega
          have c0 := blk_cell HMj.out.blk (i := 0) (u := .int .i64 who) rfl
          have hLl : L.length = j := by have h9 := congrArg List.length HLj.out; rw [List.length_map] at h9; rw [h9]; unfold insLs; simp
          have HLL : Hid (L.length ≤ 1000) := by unfold Hid; omega
          have hx255 : ((t[j]'hjt).toNat : Int) ≤ 255 := by have := (t[j]'hjt).toNat_lt; omega
          have CB := Qi.between_ref (nthP Lp R who j) R who wr (by have := nth_small HR.out HSM.out.1 j (Nat.le_refl _); unfold maxLen; omega) (by have := HSM.out.2; unfold maxLen; omega) h1 h8 (nthP Lp R who (j + 1)) rfl (rowE Lp R who (j + 1)) (row_go HR.out).symm
          obtain ⟨p2, hp2⟩ : ∃ p2, p2 = nthP Lp R who (j + 1) := ⟨_, rfl⟩
          rw [← hp2] at CB
          have HP2 : Hid (p2 = nthP Lp R who (j + 1)) := hp2
          have HIO : Hid (insO Lp R who n t j = ((who, n + j + 1), 1, p2, ((t[j]'hjt).toNat : Int), [])) := by
            unfold Hid insO; rw [byte_at t j hjt, hp2, show n + 1 + (j : Int) = n + j + 1 by omega]
          clear hp2 hLl
          by_cases hz : rowE Lp R who (j + 1) = 0
          · have HR2 : Hid (rowE Lp R who (j + 1) = 0) := hz
            rw [hz] at CB
            clear hz
            go_wp2_with fail
            refine CB.mono ?_
            rintro e w4 ⟨rfl, hb4⟩
            have HB4 : Hid (Below B w w4) := HBj.out.trans (hb4.mono (Nat.le_trans HBW.out HBj.out.size))
            have CA := add_ref B M who (n + j) v L 1 p2 ((t[j]'hjt).toNat : Int) (.slice none 0 0) [] w4 (HMj.out.below hb4) (World.ownsRow_nil _ _ _ _) (Nat.le_trans HBW.out HB4.out.size) (by have := HNB.out.1; omega) (by have := HNB.out.2; omega) HLL.out
            clear CB hb4 c0
            go_wp2_with fail
            refine CA.mono ?_
            rintro e w5 ⟨rfl, v5, hm5, hb5⟩
            have HB5 : Hid (Below B w w5) := HB4.out.trans hb5
            have HM5 : Hid (MkAt B w5 M who (n + ((j + 1 : Nat) : Int)) v5 (L ++ [(((who, n + j + 1), 1, p2, ((t[j]'hjt).toNat : Int), []), .slice none 0 0)])) := by
              unfold Hid; rw [show n + ((j + 1 : Nat) : Int) = n + j + 1 by omega]; exact hm5
            have HL5 : Hid ((L ++ [(((who, n + j + 1), 1, p2, ((t[j]'hjt).toNat : Int), []), (.slice none 0 0 : Value))] : List (Ox × Value)).map (fun y : Ox × Value => y.1) = insLs Lp R who n t (j + 1)) := by
              unfold Hid; rw [List.map_append, HLj.out, insLs_next, HIO.out]; rfl
            clear CA hm5 hb5
            go_wp2_with fail
            go_roundw
            case rel => exact ⟨j + 1, v5, _, by omega, by go_num, by rw [HP2.out], HR2, HM5, HL5, HB5⟩
            case measure => simp [intOf]; omega
          · have HE2 : Hid (insK l who (o : Int) t = rowE Lp R who (j + 1)) := by unfold Hid; rw [HE0.out]; exact row_stop hz _ (by omega)
            have HZ : Hid (rowE Lp R who (j + 1) ≠ 0) := hz
            obtain ⟨ez, hez⟩ : ∃ ez, ez = rowE Lp R who (j + 1) := ⟨_, rfl⟩
            rw [← hez] at CB HE2 HZ
            have hzb : (ez != 0) = true := by have := HZ.out; simpa using this
            clear hz hez
            go_wp2_with fail
            refine CB.mono ?_
            rintro e w4 ⟨rfl, hb4⟩
            have HB4 : Hid (Below B w w4) := HBj.out.trans (hb4.mono (Nat.le_trans HBW.out HBj.out.size))
            have HM4 : Hid (MkAt B w4 M who (n + j) v L) := HMj.out.below hb4
            clear CB hb4 c0
            go_wp2_with fail
            go_ret
            exact ⟨by rw [HE2.out]; rfl, ⟨_, _, _, HM4.out, fun e => absurd e (by rw [HE2.out]; exact HZ.out)⟩, HB4.out⟩
        · have hje : j = t.size := by omega
          have hjz : ¬ (j : Int) < t.size := by omega
          have HE2 : Hid (insK l who (o : Int) t = 0) := by unfold Hid; rw [HE0.out, ← hje]; exact HR.out
          have HLE : Hid (L.map (·.1) = insLs Lp R who n t t.size) := by unfold Hid; rw [← hje]; exact HLj.out
          clear hje
          go_wp2_with fail
          go_ret
          exact ⟨by rw [HE2.out]; rfl, ⟨_, _, _, HMj.out, fun _ => by rw [← HLPE.out, ← HRPE.out]; exact HLE.out⟩, HBj.out⟩

set_option maxRecDepth 100000 in
set_option maxHeartbeats 8000000 in
theorem insert_none (t : ByteArray) (M : Nat) (off : Int) (q : Option Addr) (m c : Nat) (B : Nat) (who n : Int) (l : List Bm.Leaf) (w : World) (h : MkAt B w M who n (.slice none 0 0) []) (hk : textE t = 0) (hbk : ∀ W, Below B w W → BookAt W (.slice q m c) l) (hb0 : Bm.bookE l = 0) (h1 : 1 ≤ who) (h8 : who ≤ 8) (hB : B ≤ w.heap.size) (hn0 : 0 ≤ n) (hn1 : n ≤ 400) (hm0 : m = 0) :
    Calls Tryz.prog 62 #[.pointer (some ⟨M, 0, none⟩), .slice q m c, .int .i64 off, .string t] w (MkPost B w M who (insK l who off t) (insLs (leftP l off.toNat) (rightP l off.toNat) who n t t.size)) := by
  obtain ⟨ht2, hok⟩ := textE_zero.1 hk
  have HMK : Hid (MkAt B w M who n (.slice none 0 0) []) := h
  have HBK : Hid (∀ W, Below B w W → LeafsIn W q l) := fun W hb => by
    obtain ⟨p9, c9, e9, hin, _⟩ := hbk W hb
    injection e9 with e1 e2 e3
    rw [e1]; exact hin
  have hml : m = l.length := by
    obtain ⟨p9, c9, e9, hin, _⟩ := hbk w (Below.refl _ _)
    injection e9
  have HML : Hid (l.length = m) := hml.symm
  have HM0 : Hid (m = 0) := hm0
  have hl3 := (Bm.bookE_zero.1 hb0).1
  have hm3 : m ≤ 300 := by omega
  have HRS : Hid (Bm.Rise l) := (Bm.bookE_zero.1 hb0).2.2
  have CT : Hid (∀ W, Below B w W → Calls Tryz.prog 23 #[.slice q m c] W fun e w' => e = .returned (.string ⟨(Bm.text l).toArray⟩) ∧ Below W.heap.size W w') := fun W hb => Mb.text_ref q m c l W HML.out (HBK.out W hb) (Lf.book_ok hb0).2.2 (by omega)
  have CN : Hid (∀ W f, Below B w W → 0 ≤ f → Calls Tryz.prog 70 #[.slice q m c, .int .i64 f] W fun e w' => e = .returned (.int .i64 (Bm.nth l 0 f)) ∧ Below W.heap.size W w') := fun W f hb hf => Mb.nth_ref q m c l f W HML.out (HBK.out W hb) (by omega) hf
  have HE : Hid (insK l who off t = if aroundE l off ≠ 0 then 1 else rowE (leftP l off.toNat) (rightP l off.toNat) who t.size) := by unfold Hid insK; rw [if_neg (by simpa using hk)]
  have HSM : Hid ((leftP l off.toNat).size ≤ 12 ∧ (rightP l off.toNat).size ≤ 12) := by
    have := left_small (S := ⟨l, [], [], []⟩) hb0 off.toNat
    exact ⟨this.1, this.2.1⟩
  have HSL : Hid ((⟨(Bm.text l).toArray⟩ : ByteArray).size = (seenP l).length) := text_len l
  have hsl3 : (seenP l).length ≤ 300 := by have := seenP_le l; omega
  obtain ⟨tl, htl⟩ : ∃ tl : ByteArray, tl = ⟨(Bm.text l).toArray⟩ := ⟨_, rfl⟩
  rw [← htl] at CT HSL
  have htl3 : tl.size ≤ 300 := by have := HSL.out; omega
  have HBW : Hid (B ≤ w.heap.size) := hB
  have HNB : Hid (0 ≤ n ∧ n ≤ 400) := ⟨hn0, hn1⟩
  have HOK : Hid (∀ k, k < t.size → Bm.isL ((t.toList.getD k 0).toNat : Int) = true) := fun k hk9 => let_at hok hk9
  have hsz : ¬ (200 : Int) < t.size := by omega
  clear hm0 h hbk hb0 hk hml hl3 htl hok hB hn0 hn1
  go_enter Tryz.func62, Tryz.ntmps62
  go_wp2_with fail
  go_loopw [9] (fun i wr => ∃ (k : Nat), k ≤ t.size ∧ i = .int .i64 k ∧ Hid (wr = w)) (fun i _ => t.size - (intOf i).toNat)
  case atStart => exact ⟨0, by omega, rfl, rfl⟩
  case round =>
    obtain ⟨k, hk, rfl, HW⟩ := hrel
    by_cases hlt : k < t.size
    · have hltz : (k : Int) < t.size := by omega
      have hx255 : ((t[k]'hlt).toNat : Int) ≤ 255 := by have := (t[k]'hlt).toNat_lt; omega
      have CL := Lp.letter_ref ((t[k]'hlt).toNat : Int) wr
      have hb := HOK.out k hlt
      rw [byte_at t k hlt] at hb
      rw [hb] at CL
      clear hb
      go_wp2_with fail
      refine CL.mono ?_
      rintro e w2 ⟨rfl, hw⟩
      have HW2 : Hid (w2 = w) := hw.trans HW.out
      clear hw CL
      go_wp2_with fail
      go_roundw
      case rel => exact ⟨k + 1, by omega, by go_num, HW2⟩
      case measure => simp [intOf]; omega
    · have hltz : ¬ (k : Int) < t.size := by omega
      have HBr : Hid (Below B w wr) := by unfold Hid; rw [HW.out]; exact Below.refl _ _
      have HMr : Hid (MkAt B wr M who n (.slice none 0 0) []) := by unfold Hid; rw [HW.out]; exact HMK.out
      clear HW HMK
      by_cases ha : 0 ≤ off ∧ off ≤ (seenP l).length
      case neg =>
        have hae : aroundE l off ≠ 0 := fun e => ha (aroundE_zero.1 e)
        have HE1 : Hid (insK l who off t = 1) := by unfold Hid; rw [HE.out, if_pos hae]
        have hor : off < 0 ∨ (¬ off < 0 ∧ (tl.size : Int) < off) := by have := HSL.out; omega
        clear ha hae
        rcases hor with ho | ⟨ho, ho2⟩
        · go_wp2_with fail
          go_ret
          exact ⟨by rw [HE1.out]; rfl, ⟨_, _, _, HMr.out, fun e => absurd e (by rw [HE1.out]; decide)⟩, HBr.out⟩
        · go_wp2_with fail
          refine (CT.out wr HBr.out).mono ?_
          rintro e w2 ⟨rfl, hb2⟩
          have HB2 : Hid (Below B w w2) := HBr.out.trans (hb2.mono (Nat.le_trans HBW.out HBr.out.size))
          have HM2 : Hid (MkAt B w2 M who n (.slice none 0 0) []) := HMr.out.below hb2
          clear hb2
          go_wp2_with fail
          go_ret
          exact ⟨by rw [HE1.out]; rfl, ⟨_, _, _, HM2.out, fun e => absurd e (by rw [HE1.out]; decide)⟩, HB2.out⟩
      case pos =>
      obtain ⟨ha0, ha1⟩ := ha
      obtain ⟨o, rfl⟩ : ∃ o : Nat, off = o := ⟨off.toNat, by omega⟩
      have hos : o ≤ (seenP l).length := by omega
      have ho0 : ¬ (o : Int) < 0 := by omega
      have ho1 : ¬ (tl.size : Int) < o := by have := HSL.out; omega
      have HE0 : Hid (insK l who (o : Int) t = rowE (leftP l o) (rightP l o) who t.size) := by
        unfold Hid; rw [HE.out, if_neg (by rw [aroundE_zero.2 ⟨ha0, ha1⟩]; simp), Int.toNat_natCast]
      rw [Int.toNat_natCast] at HSM ⊢
      have HX : Hid (∀ x, x = nxt l o → x ≤ m) := fun x hx => by rw [hx, ← HML.out]; exact (cut_off hos).le
      have hR1 : nxt l o < m → rightP l o = (l.getD (nxt l o) Bm.none0).1 := fun hlt9 => by unfold rightP; rw [HML.out, if_pos hlt9]
      have hR2 : ¬ nxt l o < m → rightP l o = ⟨#[]⟩ := fun hlt9 => by unfold rightP; rw [HML.out, if_neg hlt9]
      obtain ⟨x, hx⟩ : ∃ x, x = nxt l o := ⟨_, rfl⟩
      rw [← hx] at hR1 hR2
      obtain ⟨R, hRR⟩ : ∃ R, R = rightP l o := ⟨_, rfl⟩
      have HRPE : Hid (R = rightP l o) := hRR
      rw [← hRR] at hR1 hR2 HE0 HSM ⊢
      have HR1 : Hid (x < m → R = (l.getD x Bm.none0).1) := hR1
      have HR2 : Hid (¬ x < m → R = ⟨#[]⟩) := hR2
      have hxm : x ≤ m := HX.out x hx
      clear hR1 hR2 HE hRR HX
      go_wp2_with fail
      refine (CT.out wr HBr.out).mono ?_
      rintro e w2 ⟨rfl, hb2⟩
      have HB2 : Hid (Below B w w2) := HBr.out.trans (hb2.mono (Nat.le_trans HBW.out HBr.out.size))
      have HM2 : Hid (MkAt B w2 M who n (.slice none 0 0) []) := HMr.out.below hb2
      clear hb2 HBr HMr CT
      obtain ⟨Lp, hLp⟩ : ∃ Lp, Lp = leftP l o := ⟨_, rfl⟩
      rw [← hLp] at HE0 HSM ⊢
      have HL0 : Hid (o = 0 → Lp = ⟨#[]⟩ ∧ x = 0) := fun e => by rw [hLp, hx]; unfold leftP nxt; rw [if_pos e, if_pos e]; exact ⟨rfl, rfl⟩
      have HL1 : Hid (0 < o → ∃ i : Nat, Bm.nth l 0 ((o : Int) - 1) = i ∧ i < m ∧ (l.getD i Bm.none0).1 = Lp ∧ x = i + 1) := fun e => by
        obtain ⟨i, e1, e2, e3, e4⟩ := nth_pos (l := l) (r := o - 1) (by omega)
        rw [show (((o - 1 : Nat) : Int)) = (o : Int) - 1 by omega] at e1
        rw [show o - 1 + 1 = o by omega] at e4
        exact ⟨i, e1, by rw [← HML.out]; exact e2, by rw [e3, hLp]; exact (left_at e).symm, by rw [hx]; exact e4⟩
      have HLPE : Hid (Lp = leftP l o) := hLp
      clear hLp hx
      go_upto_if 43 with fail
      go_cut [11, 12] from 17 to 54 (fun s11 s12 wx => s11 = .int .i64 x ∧ s12 = .string Lp ∧ Hid (Below w2.heap.size w2 wx))
      case first =>
        by_cases h0 : o = 0
        · obtain ⟨e1, e2⟩ := HL0.out h0
          subst e1 e2 h0
          go_wp2_with fail
          go_meet
          case rel => exact ⟨rfl, rfl, Below.refl _ _⟩
        · have h0p : 0 < o := by omega
          have h0z : (0 : Int) < o := by omega
          obtain ⟨i, e1, e2, e3, e4⟩ := HL1.out h0p
          exfalso
          have := HM0.out
          omega
      case rest =>
      obtain ⟨rfl, rfl, HB3⟩ := hcut
      have HB3w : Hid (Below B w wc) := HB2.out.trans (HB3.out.mono (Nat.le_trans HBW.out HB2.out.size))
      have HM3 : Hid (MkAt B wc M who n (.slice none 0 0) []) := HM2.out.below HB3.out
      obtain ⟨w3, hw3⟩ : ∃ w3, w3 = wc := ⟨_, rfl⟩
      have HBW3 : Hid (Below B w w3) := by unfold Hid; rw [hw3]; exact HB3w.out
      have HMW3 : Hid (MkAt B w3 M who n (.slice none 0 0) []) := by unfold Hid; rw [hw3]; exact HM3.out
      clear HB3 HB2 HM2 HL0 HL1
      go_upto_if 58 with fail
      go_cut [13] from 17 to 63 (fun s13 wx => s13 = .string R ∧ w3 = wx)
      case first =>
        by_cases hxm2 : x < m
        · have hxz : (x : Int) < m := by omega
          exfalso
          have := HM0.out
          omega
        · have hxz : ¬ (x : Int) < m := by omega
          have e9 := HR2.out hxm2
          subst e9
          go_wp2_with fail
          go_meet
          case rel => exact ⟨rfl, hw3⟩
      case rest =>
      obtain ⟨rfl, hw9⟩ := hcut
      rw [← hw9]
      clear hw9 hw3 HB3w HM3 CN HBK
      go_wp2_with fail
      go_loopw [12, 14] (fun vl vi wr => ∃ (j : Nat) (v : Value) (L : List (Ox × Value)), j ≤ t.size ∧ vi = .int .i64 j ∧ vl = .string (nthP Lp R who j) ∧ Hid (rowE Lp R who j = 0) ∧ Hid (MkAt B wr M who (n + j) v L) ∧ Hid (L.map (·.1) = insLs Lp R who n t j) ∧ Hid (Below B w wr)) (fun _ vi _ => t.size - (intOf vi).toNat)
      case atStart => exact ⟨0, .slice none 0 0, [], by omega, rfl, rfl, rfl, by have h9 := HMW3.out; rw [show n + ((0 : Nat) : Int) = n by omega]; exact h9, rfl, HBW3⟩
      case round =>
        clear HMW3 HBW3
        obtain ⟨j, v, L, hj, rfl, rfl, HR, HMj, HLj, HBj⟩ := hrel
        by_cases hjt : j < t.size
        · have hjz : (j : Int) < t.size := by omega
          have c0 := blk_cell HMj.out.blk (i := 0) (u := .int .i64 who) rfl
          have hLl : L.length = j := by have h9 := congrArg List.length HLj.out; rw [List.length_map] at h9; rw [h9]; unfold insLs; simp
          have HLL : Hid (L.length ≤ 1000) := by unfold Hid; omega
          have hx255 : ((t[j]'hjt).toNat : Int) ≤ 255 := by have := (t[j]'hjt).toNat_lt; omega
          have CB := Qi.between_ref (nthP Lp R who j) R who wr (by have := nth_small HR.out HSM.out.1 j (Nat.le_refl _); unfold maxLen; omega) (by have := HSM.out.2; unfold maxLen; omega) h1 h8 (nthP Lp R who (j + 1)) rfl (rowE Lp R who (j + 1)) (row_go HR.out).symm
          obtain ⟨p2, hp2⟩ : ∃ p2, p2 = nthP Lp R who (j + 1) := ⟨_, rfl⟩
          rw [← hp2] at CB
          have HP2 : Hid (p2 = nthP Lp R who (j + 1)) := hp2
          have HIO : Hid (insO Lp R who n t j = ((who, n + j + 1), 1, p2, ((t[j]'hjt).toNat : Int), [])) := by
            unfold Hid insO; rw [byte_at t j hjt, hp2, show n + 1 + (j : Int) = n + j + 1 by omega]
          clear hp2 hLl
          by_cases hz : rowE Lp R who (j + 1) = 0
          · have HR2 : Hid (rowE Lp R who (j + 1) = 0) := hz
            rw [hz] at CB
            clear hz
            go_wp2_with fail
            refine CB.mono ?_
            rintro e w4 ⟨rfl, hb4⟩
            have HB4 : Hid (Below B w w4) := HBj.out.trans (hb4.mono (Nat.le_trans HBW.out HBj.out.size))
            have CA := add_ref B M who (n + j) v L 1 p2 ((t[j]'hjt).toNat : Int) (.slice none 0 0) [] w4 (HMj.out.below hb4) (World.ownsRow_nil _ _ _ _) (Nat.le_trans HBW.out HB4.out.size) (by have := HNB.out.1; omega) (by have := HNB.out.2; omega) HLL.out
            clear CB hb4 c0
            go_wp2_with fail
            refine CA.mono ?_
            rintro e w5 ⟨rfl, v5, hm5, hb5⟩
            have HB5 : Hid (Below B w w5) := HB4.out.trans hb5
            have HM5 : Hid (MkAt B w5 M who (n + ((j + 1 : Nat) : Int)) v5 (L ++ [(((who, n + j + 1), 1, p2, ((t[j]'hjt).toNat : Int), []), .slice none 0 0)])) := by
              unfold Hid; rw [show n + ((j + 1 : Nat) : Int) = n + j + 1 by omega]; exact hm5
            have HL5 : Hid ((L ++ [(((who, n + j + 1), 1, p2, ((t[j]'hjt).toNat : Int), []), (.slice none 0 0 : Value))] : List (Ox × Value)).map (fun y : Ox × Value => y.1) = insLs Lp R who n t (j + 1)) := by
              unfold Hid; rw [List.map_append, HLj.out, insLs_next, HIO.out]; rfl
            clear CA hm5 hb5
            go_wp2_with fail
            go_roundw
            case rel => exact ⟨j + 1, v5, _, by omega, by go_num, by rw [HP2.out], HR2, HM5, HL5, HB5⟩
            case measure => simp [intOf]; omega
          · have HE2 : Hid (insK l who (o : Int) t = rowE Lp R who (j + 1)) := by unfold Hid; rw [HE0.out]; exact row_stop hz _ (by omega)
            have HZ : Hid (rowE Lp R who (j + 1) ≠ 0) := hz
            obtain ⟨ez, hez⟩ : ∃ ez, ez = rowE Lp R who (j + 1) := ⟨_, rfl⟩
            rw [← hez] at CB HE2 HZ
            have hzb : (ez != 0) = true := by have := HZ.out; simpa using this
            clear hz hez
            go_wp2_with fail
            refine CB.mono ?_
            rintro e w4 ⟨rfl, hb4⟩
            have HB4 : Hid (Below B w w4) := HBj.out.trans (hb4.mono (Nat.le_trans HBW.out HBj.out.size))
            have HM4 : Hid (MkAt B w4 M who (n + j) v L) := HMj.out.below hb4
            clear CB hb4 c0
            go_wp2_with fail
            go_ret
            exact ⟨by rw [HE2.out]; rfl, ⟨_, _, _, HM4.out, fun e => absurd e (by rw [HE2.out]; exact HZ.out)⟩, HB4.out⟩
        · have hje : j = t.size := by omega
          have hjz : ¬ (j : Int) < t.size := by omega
          have HE2 : Hid (insK l who (o : Int) t = 0) := by unfold Hid; rw [HE0.out, ← hje]; exact HR.out
          have HLE : Hid (L.map (·.1) = insLs Lp R who n t t.size) := by unfold Hid; rw [← hje]; exact HLj.out
          clear hje
          go_wp2_with fail
          go_ret
          exact ⟨by rw [HE2.out]; rfl, ⟨_, _, _, HMj.out, fun _ => by rw [← HLPE.out, ← HRPE.out]; exact HLE.out⟩, HBj.out⟩

end Uu
end Go.Proofs.YtnniggjeadlbgaaGreatDoor
