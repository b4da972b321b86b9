/- The walk of EditTells: every edit's ops and error as the reference's, then Do, then the book and the marks. -/
import Derived.Test.YtnniggjeadlbgaaGreatDoorYa
import Derived.Test.YtnniggjeadlbgaaGreatDoorUq
import Derived.Test.YtnniggjeadlbgaaGreatDoorUr
import Derived.Test.YtnniggjeadlbgaaGreatDoorUz
import Derived.Deep.RegionHeld3
namespace Go.Proofs.YtnniggjeadlbgaaGreatDoor
namespace Yb
set_option linter.unusedVariables false
set_option linter.unusedSimpArgs false
open Go.ChangeShapes Go.WideShapes Go.ChangeAt Go.RowKit Cm Ka Kb Na Om Oa Oz Oc Og Oi Hm Ia Ib Ic Idc Ie If Ig Ih Ii Ij Ik Il Im Xa Um Ua Ue Ut
open La (bel bel_drew errV_zero errV_ne own_ge own_grow own_below Lies)
open Lj (BookAt BookNew)
open Kt (ET)
open Xg (Parts)

def outL (k : Int) (L : List Ox) : List Ox := if k = 0 then L else []
def Small (L : List Ox) : Prop := L.length ≤ 1048576 ∧ ∀ x ∈ L, x.2.2.2.2.length ≤ 1048576
theorem rf_at {w w' : World} {k : Int} {L : List Ox} {e : Ending} (h : RfPost w k L e w') : ∃ p n c, e = .returned (.tuple #[.slice p n c, .int .i64 k]) ∧ OpsAt w' (.slice p n c) (outL k L) ∧ Below w.heap.size w w' := by
  obtain ⟨v, he, h0, h1, hb⟩ := h
  by_cases hk : k = 0
  · have h2 := h0 hk
    obtain ⟨q, c, rfl, r⟩ := h0 hk
    exact ⟨_, _, _, he, by unfold outL; rw [if_pos hk]; exact h2, hb⟩
  · have := h1 hk; subst this
    exact ⟨_, _, _, he, by unfold outL; rw [if_neg hk]; exact OpsAt.nil _, hb⟩
theorem ed_at {w w' : World} {k : Int} {L : List Ox} {e : Ending} (h : EdPost w k L e w') : ∃ p n c, e = .returned (.tuple #[.slice p n c, errV k]) ∧ OpsAt w' (.slice p n c) (outL k L) ∧ Below w.heap.size w w' := by
  obtain ⟨v, he, h0, h1, hb⟩ := h
  by_cases hk : k = 0
  · have h2 := (h0 hk).at
    obtain ⟨q, c, rfl, r⟩ := (h0 hk).at
    exact ⟨_, _, _, he, by unfold outL; rw [if_pos hk]; exact h2, hb⟩
  · have := h1 hk; subst this
    exact ⟨_, _, _, he, by unfold outL; rw [if_neg hk]; exact OpsAt.nil _, hb⟩
theorem same_out {k : Int} {L : List Ox} (hs : k = 0 → Small L) (v u : Value) (w : World) (h1 : OpsAt w v (outL k L)) (h2 : OpsAt w u (outL k L)) :
    Calls Tryz.prog 20 #[v, u] w fun e w' => e = .returned (.bool true) ∧ Below w.heap.size w w' := by
  have hz : Small (outL k L) := by
    unfold outL
    by_cases hk : k = 0
    · rw [if_pos hk]; exact hs hk
    · rw [if_neg hk]; exact ⟨Nat.zero_le _, fun x hx => by simp at hx⟩
  exact (Ol.same_ops v u _ _ w h1 h2 hz.1 hz.2).mono fun e w' ⟨h1, h2⟩ => ⟨by rw [h1]; simp, h2⟩
theorem ins_small {S : Dq} {who off : Int} {t : ByteArray} (h : insE S who off t = 0) : Small (insL S who off t) := by
  have hf := (insE_zero.1 h).few
  refine ⟨by rw [insL_len]; omega, fun x hx => ?_⟩
  obtain ⟨k, _, rfl⟩ := insL_mem hx
  exact Nat.zero_le _
theorem del_small {S : Dq} {who a b : Int} (I : Inv S) (h : delE S who a b = 0) : Small (delL S who a b) := by
  have h3 := few_book I
  have h4 := seenP_le S.book
  have hb : 0 ≤ a ∧ b ≤ (seenP S.book).length := by
    unfold delE at h
    cases hw : Pm.isWho who with
    | false => rw [hw, if_pos rfl] at h; cases h
    | true =>
      rw [hw, if_neg (by simp)] at h
      by_cases ho : a < 0 ∨ b < a ∨ ((seenP S.book).length : Int) < b
      · rw [if_pos ho] at h; cases h
      · omega
  refine ⟨by unfold delL; rw [List.length_map, List.length_range]; omega, fun x hx => ?_⟩
  unfold delL at hx
  obtain ⟨k, _, rfl⟩ := List.mem_map.1 hx
  exact Nat.zero_le _
theorem spl_small {S : Dq} {who off : Int} : Small (splL S who off) := by
  refine ⟨by unfold splL; simp, fun x hx => ?_⟩
  unfold splL at hx
  rw [List.mem_singleton] at hx
  subst hx
  exact Nat.zero_le _
theorem fus_small {S : Dq} {who off : Int} (I : Inv S) : Small (fusL S who off) := by
  refine ⟨by unfold fusL; simp, fun x hx => ?_⟩
  unfold fusL at hx
  rw [List.mem_singleton] at hx
  subst hx
  have h1 := Ni.dotsAt_len S.marks (atP S off)
  have h2 := few_marks I
  show (dotsAt S.marks (atP S off)).length ≤ 1048576
  omega

set_option maxRecDepth 100000 in
set_option maxHeartbeats 8000000 in
theorem walk (vl : Value) (l : List Ox) (who a b : Int) (t : ByteArray) (w : World) (hl : OpsAt w vl l) (hsz : ∀ x ∈ l, x.2.2.1.size ≤ maxLen) (ht : t.size ≤ maxLen) (hg : ET w) :
    Calls Tryz.prog 4 #[vl, .int .i64 who, .int .i64 a, .int .i64 b, .string t] w fun e w' => e = .returned (.bool true) ∧ Below w.heap.size w w' := by
  have HL : Hid (OpsAt w vl l) := hl
  have HSZ : Hid (∀ x ∈ l, x.2.2.1.size ≤ maxLen) := hsz
  have HT : Hid (t.size ≤ maxLen) := ht
  have HG : Hid (ET w) := hg
  have C0 := Ya.both_any vl l w hl hsz hg
  obtain ⟨ql, nl, cl, rfl⟩ : ∃ q n c, vl = .slice q n c := by obtain ⟨_, _, e, _⟩ := hl; exact ⟨_, _, _, e⟩
  clear hl hsz ht hg
  go_enter Tryz.func4, Tryz.ntmps4
  go_wp2_with fail
  refine C0.mono ?_
  rintro e w0 ⟨D, E, S, Fd, Fr, rfl, hd, he, hf, hx, hb⟩
  have HD : Hid (DocAt w0 D S Fd) := hd
  have HE : Hid (RefAt w.heap.size w0 E S Fr) := he
  have HF : Hid (∀ g, Fd g → w.heap.size ≤ g) := hf
  have HX : Hid (∀ g, Fr g → ¬ Fd g) := hx
  have HB : Hid (Below w.heap.size w w0) := hb
  have HBB0 : Hid (Below w0.heap.size w0 w0) := Below.refl _ _
  clear hd he hf hx hb C0
  -- edit 1
  have HS1 : Hid (insE S who a t = 0 → Small (insL S who a t)) := ins_small
  have CR1 := Uv.insert_ref w.heap.size E S Fr who a t w0 (HE.out.below HBB0.out) HT.out
  have CP1 : Hid (∀ W, Below w0.heap.size w0 W → Calls Tryz.prog 26 #[.pointer (some ⟨D, 0, none⟩), .int .i64 who, .int .i64 a, .string t] W (EdPost W (insE S who a t) (insL S who a t))) := fun W hb => Ue.insert_any D S Fd who a t W (HD.out.below hb) HT.out
  obtain ⟨k1, hk1⟩ : ∃ k, k = insE S who a t := ⟨_, rfl⟩
  obtain ⟨L1, hL1⟩ : ∃ L, L = insL S who a t := ⟨_, rfl⟩
  rw [← hk1, ← hL1] at HS1 CR1 CP1
  clear hk1 hL1
  go_wp2_with fail
  refine CR1.mono ?_
  rintro e w1 hr
  obtain ⟨p1, n1, c1, rfl, ho, hb⟩ := rf_at hr
  have HO1 : Hid (OpsAt w1 (.slice p1 n1 c1) (outL k1 L1)) := ho
  have HBB1 : Hid (Below w0.heap.size w0 w1) := bel HBB0.out hb
  clear hr ho hb CR1
  go_wp2_with fail
  refine (CP1.out w1 HBB1.out).mono ?_
  rintro e w2 hr
  obtain ⟨p2, n2, c2, rfl, ho, hb⟩ := ed_at hr
  have HO2 : Hid (OpsAt w2 (.slice p2 n2 c2) (outL k1 L1) ∧ OpsAt w2 (.slice p1 n1 c1) (outL k1 L1)) := ⟨ho, HO1.out.below hb⟩
  have HBB2 : Hid (Below w0.heap.size w0 w2) := bel HBB1.out hb
  have CE := Kl.same_any k1 k1 w2 (Kl.ET.below HG.out (bel HB.out HBB2.out))
  rw [show (k1 == k1) = true by simp] at CE
  clear hr ho hb CP1 HO1
  go_wp2_with fail
  refine CE.mono ?_
  rintro e w3 ⟨rfl, hb⟩
  have HBB3 : Hid (Below w0.heap.size w0 w3) := bel HBB2.out hb
  have CO := same_out HS1.out _ _ w3 (HO2.out.1.below hb) (HO2.out.2.below hb)
  clear hb CE HO2
  go_wp2_with fail
  refine CO.mono ?_
  rintro e w4 ⟨rfl, hb⟩
  have HBB4 : Hid (Below w0.heap.size w0 w4) := bel HBB3.out hb
  clear hb CO HS1 HBB1 HBB2 HBB3 
  -- edit 2
  have HS5 : Hid (delE S who a b = 0 → Small (delL S who a b)) := del_small HD.out.inv
  have CR5 := Uw.delete_ref w.heap.size E S Fr who a b w4 (HE.out.below HBB4.out)
  have CP5 : Hid (∀ W, Below w0.heap.size w0 W → Calls Tryz.prog 28 #[.pointer (some ⟨D, 0, none⟩), .int .i64 who, .int .i64 a, .int .i64 b] W (EdPost W (delE S who a b) (delL S who a b))) := fun W hb => Uq.delete_any D S Fd who a b W (HD.out.below hb)
  obtain ⟨k5, hk5⟩ : ∃ k, k = delE S who a b := ⟨_, rfl⟩
  obtain ⟨L5, hL5⟩ : ∃ L, L = delL S who a b := ⟨_, rfl⟩
  rw [← hk5, ← hL5] at HS5 CR5 CP5
  clear hk5 hL5
  go_wp2_with fail
  refine CR5.mono ?_
  rintro e w5 hr
  obtain ⟨p5, n5, c5, rfl, ho, hb⟩ := rf_at hr
  have HO5 : Hid (OpsAt w5 (.slice p5 n5 c5) (outL k5 L5)) := ho
  have HBB5 : Hid (Below w0.heap.size w0 w5) := bel HBB4.out hb
  clear hr ho hb CR5
  go_wp2_with fail
  refine (CP5.out w5 HBB5.out).mono ?_
  rintro e w6 hr
  obtain ⟨p6, n6, c6, rfl, ho, hb⟩ := ed_at hr
  have HO6 : Hid (OpsAt w6 (.slice p6 n6 c6) (outL k5 L5) ∧ OpsAt w6 (.slice p5 n5 c5) (outL k5 L5)) := ⟨ho, HO5.out.below hb⟩
  have HBB6 : Hid (Below w0.heap.size w0 w6) := bel HBB5.out hb
  have CE := Kl.same_any k5 k5 w6 (Kl.ET.below HG.out (bel HB.out HBB6.out))
  rw [show (k5 == k5) = true by simp] at CE
  clear hr ho hb CP5 HO5
  go_wp2_with fail
  refine CE.mono ?_
  rintro e w7 ⟨rfl, hb⟩
  have HBB7 : Hid (Below w0.heap.size w0 w7) := bel HBB6.out hb
  have CO := same_out HS5.out _ _ w7 (HO6.out.1.below hb) (HO6.out.2.below hb)
  clear hb CE HO6
  go_wp2_with fail
  refine CO.mono ?_
  rintro e w8 ⟨rfl, hb⟩
  have HBB8 : Hid (Below w0.heap.size w0 w8) := bel HBB7.out hb
  clear hb CO HS5 HBB5 HBB6 HBB7 HBB4
  -- edit 3
  have HS9 : Hid (atE S who a = 0 → Small (splL S who a)) := fun _ => spl_small
  have CR9 := Uz.split_ref w.heap.size E S Fr who a w8 (HE.out.below HBB8.out)
  have CP9 : Hid (∀ W, Below w0.heap.size w0 W → Calls Tryz.prog 30 #[.pointer (some ⟨D, 0, none⟩), .int .i64 who, .int .i64 a] W (EdPost W (atE S who a) (splL S who a))) := fun W hb => Uf.split_any D S Fd who a W (HD.out.below hb)
  obtain ⟨k9, hk9⟩ : ∃ k, k = atE S who a := ⟨_, rfl⟩
  obtain ⟨L9, hL9⟩ : ∃ L, L = splL S who a := ⟨_, rfl⟩
  rw [← hk9, ← hL9] at HS9 CR9 CP9
  clear hk9 hL9
  go_wp2_with fail
  refine CR9.mono ?_
  rintro e w9 hr
  obtain ⟨p9, n9, c9, rfl, ho, hb⟩ := rf_at hr
  have HO9 : Hid (OpsAt w9 (.slice p9 n9 c9) (outL k9 L9)) := ho
  have HBB9 : Hid (Below w0.heap.size w0 w9) := bel HBB8.out hb
  clear hr ho hb CR9
  go_wp2_with fail
  refine (CP9.out w9 HBB9.out).mono ?_
  rintro e w10 hr
  obtain ⟨p10, n10, c10, rfl, ho, hb⟩ := ed_at hr
  have HO10 : Hid (OpsAt w10 (.slice p10 n10 c10) (outL k9 L9) ∧ OpsAt w10 (.slice p9 n9 c9) (outL k9 L9)) := ⟨ho, HO9.out.below hb⟩
  have HBB10 : Hid (Below w0.heap.size w0 w10) := bel HBB9.out hb
  have CE := Kl.same_any k9 k9 w10 (Kl.ET.below HG.out (bel HB.out HBB10.out))
  rw [show (k9 == k9) = true by simp] at CE
  clear hr ho hb CP9 HO9
  go_wp2_with fail
  refine CE.mono ?_
  rintro e w11 ⟨rfl, hb⟩
  have HBB11 : Hid (Below w0.heap.size w0 w11) := bel HBB10.out hb
  have CO := same_out HS9.out _ _ w11 (HO10.out.1.below hb) (HO10.out.2.below hb)
  clear hb CE HO10
  go_wp2_with fail
  refine CO.mono ?_
  rintro e w12 ⟨rfl, hb⟩
  have HBB12 : Hid (Below w0.heap.size w0 w12) := bel HBB11.out hb
  clear hb CO HS9 HBB9 HBB10 HBB11 HBB8
  -- edit 4
  have HS13 : Hid (fusE S who a = 0 → Small (fusL S who a)) := fun _ => fus_small HD.out.inv
  have CR13 := Uz.fuse_ref w.heap.size E S Fr who a w12 (HE.out.below HBB12.out)
  have CP13 : Hid (∀ W, Below w0.heap.size w0 W → Calls Tryz.prog 31 #[.pointer (some ⟨D, 0, none⟩), .int .i64 who, .int .i64 a] W (EdPost W (fusE S who a) (fusL S who a))) := fun W hb => Ur.fuse_any D S Fd who a W (HD.out.below hb)
  obtain ⟨k13, hk13⟩ : ∃ k, k = fusE S who a := ⟨_, rfl⟩
  obtain ⟨L13, hL13⟩ : ∃ L, L = fusL S who a := ⟨_, rfl⟩
  rw [← hk13, ← hL13] at HS13 CR13 CP13
  clear hk13 hL13
  go_wp2_with fail
  refine CR13.mono ?_
  rintro e w13 hr
  obtain ⟨p13, n13, c13, rfl, ho, hb⟩ := rf_at hr
  have HO13 : Hid (OpsAt w13 (.slice p13 n13 c13) (outL k13 L13)) := ho
  have HBB13 : Hid (Below w0.heap.size w0 w13) := bel HBB12.out hb
  clear hr ho hb CR13
  go_wp2_with fail
  refine (CP13.out w13 HBB13.out).mono ?_
  rintro e w14 hr
  obtain ⟨p14, n14, c14, rfl, ho, hb⟩ := ed_at hr
  have HO14 : Hid (OpsAt w14 (.slice p14 n14 c14) (outL k13 L13) ∧ OpsAt w14 (.slice p13 n13 c13) (outL k13 L13)) := ⟨ho, HO13.out.below hb⟩
  have HBB14 : Hid (Below w0.heap.size w0 w14) := bel HBB13.out hb
  have CE := Kl.same_any k13 k13 w14 (Kl.ET.below HG.out (bel HB.out HBB14.out))
  rw [show (k13 == k13) = true by simp] at CE
  clear hr ho hb CP13 HO13
  go_wp2_with fail
  refine CE.mono ?_
  rintro e w15 ⟨rfl, hb⟩
  have HBB15 : Hid (Below w0.heap.size w0 w15) := bel HBB14.out hb
  have CO := same_out HS13.out _ _ w15 (HO14.out.1.below hb) (HO14.out.2.below hb)
  clear hb CE HO14
  go_wp2_with fail
  refine CO.mono ?_
  rintro e w16 ⟨rfl, hb⟩
  have HBB16 : Hid (Below w0.heap.size w0 w16) := bel HBB15.out hb
  clear hb CO HS13 HBB13 HBB14 HBB15 HBB12
  -- Do
  have CR := Ux.do_ref w.heap.size E S Fr _ l w w16 (HE.out.below HBB16.out) HL.out rfl (bel HB.out HBB16.out) HSZ.out
  go_wp2_with fail
  refine CR.mono ?_
  rintro e w17 ⟨he, F17, hd, hc, hf⟩
  have HE17 : Hid (RefAt w.heap.size w17 E (runS S l) F17) := hd
  have HFR : Hid (∀ g, Fr g → w.heap.size ≤ g) := fun g hg => (HE.out.lt g hg).1
  have HB17 : Hid (Below w.heap.size w w17) := hc.below HFR.out (bel HB.out HBB16.out) (bel HB.out HBB16.out).size
  have HD17 : Hid (DocAt w17 D S Fd) := (HD.out.below HBB16.out).chg hc (fun g h1 h2 => HX.out g h2 h1)
  have HX17 : Hid (∀ g, F17 g → ¬ Fd g) := fun g h1 h2 => by
    rcases hf g h1 with e9 | e9
    · exact HX.out g e9 h2
    · have := (HD.out.below HBB16.out).lt g h2; omega
  obtain ⟨q, hq⟩ : ∃ q, q = runE S l := ⟨_, rfl⟩
  have HQ : Hid (q = runE S l) := hq
  rw [← hq] at he
  subst he
  have hst : Stay (fun g => g < w.heap.size) w w17 := fun g hg => HB17.out.block g hg
  have CD := Ua.do_any D S Fd (fun g => g < w.heap.size) _ l w17 HD17.out ((OpsG.old HL.out).stay hst) (fun g hg => ⟨Nat.lt_of_lt_of_le hg HB17.out.size, fun e => by have := HF.out g e; omega⟩) HSZ.out
  clear hd hc hf hq CR hst HD HE HX HBB16
  go_wp2_with fail
  refine CD.mono ?_
  rintro e w18 ⟨he, F18, hd, hc, hf⟩
  rw [← HQ.out] at he
  subst he
  have HD18 : Hid (DocAt w18 D (runS S l) F18) := hd
  have HB18 : Hid (Below w.heap.size w w18) := hc.below HF.out HB17.out HB17.out.size
  have HE18 : Hid (RefAt w.heap.size w18 E (runS S l) F17) := HE17.out.chg hc HF.out HX17.out
  have CE := Kl.same_any q q w18 (Kl.ET.below HG.out HB18.out)
  rw [show (q == q) = true by simp] at CE
  clear hd hc hf CD
  go_wp2_with fail
  refine CE.mono ?_
  rintro e w5 ⟨rfl, hb5⟩
  have HB5 : Hid (Below w18.heap.size w18 w5) := hb5
  obtain ⟨T, hT⟩ : ∃ T, T = runS S l := ⟨_, rfl⟩
  rw [← hT] at HD18 HE18
  obtain ⟨pb, nb, cb, pm, nm, cm, gk, po, no, co, hps⟩ := Xg.RefAt.parts HE18.out
  have HP : Hid (Parts w18 E T pb nb cb pm nm cm gk po no co) := hps
  have HI : Hid (Inv T) := HE18.out.inv
  have CB : Hid (∀ W, Below w18.heap.size w18 W → Calls Tryz.prog 15 #[.pointer (some ⟨D, 0, none⟩)] W fun e w' => ∃ v', e = .returned v' ∧ BookAt w' v' T.book ∧ Below W.heap.size W w') := fun W hb => (book_get D _ _ W (HD18.out.below hb)).mono fun e w' ⟨v', h1, h2, h3⟩ => ⟨v', h1, h2.1, h3⟩
  have CM : Hid (∀ W, Below w18.heap.size w18 W → Calls Tryz.prog 17 #[.pointer (some ⟨D, 0, none⟩)] W fun e w' => ∃ v', e = .returned v' ∧ MksAt w' v' T.marks ∧ Below W.heap.size W w') := fun W hb => (marks_get D _ _ W (HD18.out.below hb)).mono fun e w' ⟨v', h1, h2, h3⟩ => ⟨v', h1, h2.1, h3⟩
  have SB : Hid (∀ W v, Below w18.heap.size w18 W → BookAt W v T.book → Calls Tryz.prog 14 #[v, .slice pb nb cb] W fun e w' => e = .returned (.bool true) ∧ Below W.heap.size W w') := fun W v hb h1 => (Lk.leafs_any v _ _ _ W h1 (HP.out.book W hb) (by have := few_book HI.out; omega)).mono fun e w' ⟨h1, h2⟩ => ⟨by rw [h1]; simp, h2⟩
  have SM : Hid (∀ W v, Below w18.heap.size w18 W → MksAt W v T.marks → Calls Tryz.prog 16 #[v, .slice pm nm cm] W fun e w' => e = .returned (.bool true) ∧ Below W.heap.size W w') := fun W v hb h1 => (Np.marks_any v _ _ _ W h1 (HP.out.marks W hb) (by have := few_marks HI.out; omega)).mono fun e w' ⟨h1, h2⟩ => ⟨by rw [h1]; simp, h2⟩
  have x0 := HP.out.c0 w5 HB5.out
  clear hb5 CE hps HQ HX17 HE17 HD17 hT HB17
  go_wp2_with fail
  go_region_held3 (fun W => W.cell? ⟨E, 0, none⟩ = some (.slice pb nb cb)) (first | (go_keep; done) | (refine keep_cell hb8 ?_; (first | assumption | (go_split_ands; assumption))) | (refine keep_cell hb7 ?_; (first | assumption | (go_split_ands; assumption)))) (first
    | (go_at_call 15; refine (CB.out _ HB5.out.drew).mono ?_; rintro e w6 ⟨v6, rfl, hk7, hb7⟩; obtain ⟨p6, n6, c6, rfl⟩ : ∃ p n c, v6 = .slice p n c := (by obtain ⟨p, c, e, _⟩ := hk7; exact ⟨_, _, _, e⟩); have HB6 : Hid (Below w18.heap.size w18 w6) := bel HB5.out.drew hb7; have HK6 : Hid (BookAt w6 (.slice p6 n6 c6) T.book) := hk7; clear hk7)
    | (go_at_call 14; refine (SB.out _ _ HB6.out HK6.out).mono ?_; rintro e w7 ⟨rfl, hb8⟩; have HB7 : Hid (Below w18.heap.size w18 w7) := bel HB6.out hb8))
  clear hb7 hb8 HK6 HB6 HB5 x0
  have x1 := HP.out.c1 w7 HB7.out
  go_wp2_with fail
  go_region_held3 (fun W => W.cell? ⟨E, 1, none⟩ = some (.slice pm nm cm)) (first | (go_keep; done) | (refine keep_cell hb8 ?_; (first | assumption | (go_split_ands; assumption))) | (refine keep_cell hb7 ?_; (first | assumption | (go_split_ands; assumption)))) (first
    | (go_at_call 17; refine (CM.out _ HB7.out.drew).mono ?_; rintro e w8 ⟨v8, rfl, hk7, hb7⟩; obtain ⟨p8, n8, c8, rfl⟩ : ∃ p n c, v8 = .slice p n c := (by obtain ⟨p, c, e, _⟩ := hk7; exact ⟨_, _, _, e⟩); have HB8 : Hid (Below w18.heap.size w18 w8) := bel HB7.out.drew hb7; have HK8 : Hid (MksAt w8 (.slice p8 n8 c8) T.marks) := hk7; clear hk7)
    | (go_at_call 16; refine (SM.out _ _ HB8.out HK8.out).mono ?_; rintro e w9 ⟨rfl, hb8⟩; have HB9 : Hid (Below w18.heap.size w18 w9) := bel HB8.out hb8))
  clear hb7 hb8 HK8 HB8 HB7 x1
  go_wp2_with fail
  go_ret
  exact ⟨rfl, bel HB18.out HB9.out⟩

end Yb
end Go.Proofs.YtnniggjeadlbgaaGreatDoor
