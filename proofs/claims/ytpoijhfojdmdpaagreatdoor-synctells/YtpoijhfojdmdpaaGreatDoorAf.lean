/- What sync.apply, bring and Both answer. -/
import Derived.Test.YtpoijhfojdmdpaaGreatDoorAe
namespace Go.Proofs.YtpoijhfojdmdpaaGreatDoor
namespace Af
set_option linter.unusedVariables false
set_option linter.unusedSimpArgs false
open Go.ChangeShapes Go.WideShapes Go.ChangeAt Go.RowKit Cm Ka Kb Na Om Oa Oz Oc Og Oi Hm Ia Ib Ic Idc Ie If Ig Ih Ii Ij Ik Il Im Iq Um Aa Ac Ae
open La (bel bel_drew errV_zero errV_ne own_ge own_grow own_below Lies)

def TkPost (w : World) (D : Nat) (S : Dq) (F : Nat → Prop) (L : List Ox) (e : Ending) (w' : World) : Prop :=
  e = .returned (.tuple #[.int .i64 (takeN S L), errV (runE S L)]) ∧ ∃ F', DocAt w' D (runS S L) F' ∧ Chg F w w' ∧ ∀ g, F' g → F g ∨ w.heap.size ≤ g

set_option maxRecDepth 100000 in
set_option maxHeartbeats 4000000 in
theorem take_any (D : Nat) (S : Dq) (F R Q : Nat → Prop) (v : Value) (L : List Ox) (w : World) (h : DocAt w D S F) (ho : OpsJ R Q w v L) (hG : ∀ g, R g ∨ Q g → g < w.heap.size ∧ ¬ F g) (hsz : ∀ x ∈ L, x.2.2.1.size ≤ maxLen) :
    Calls Tryz.prog 40 #[.pointer (some ⟨D, 0, none⟩), v] w (TkPost w D S F L) := by
  obtain ⟨q, c, rfl, hin, hlc, hcm, _⟩ := ho
  obtain ⟨n, hn⟩ : ∃ n, n = L.length := ⟨_, rfl⟩
  have hnm : n ≤ maxLen := by omega
  have hnz : (n : Int) ≤ 9223372036854775807 := by unfold maxLen at hnm; omega
  rw [← hn]
  have HN : Hid (L.length = n) := hn.symm
  have HI : Hid (OpsK R Q w q L) := hin
  have HG : Hid (∀ g, R g ∨ Q g → g < w.heap.size ∧ ¬ F g) := hG
  have HSZ : Hid (∀ x ∈ L, x.2.2.1.size ≤ maxLen) := hsz
  have HD0 : Hid (DocAt w D S F) := h
  clear h hin hG hsz hn hlc hcm
  go_enter Tryz.func40, Tryz.ntmps40
  go_wp2_with fail
  go_loopw [6, 13] (fun vm vi wr => ∃ (k : Nat) (m : Int) (Fk : Nat → Prop), k ≤ n ∧ vi = .int .i64 k ∧ vm = .int .i64 m ∧ 0 ≤ m ∧ m ≤ k ∧ Hid (m = cntN S (L.take k)) ∧ Hid (DocAt wr D (runS S (L.take k)) Fk) ∧ Hid (∀ g, Fk g → F g ∨ w.heap.size ≤ g) ∧ Hid (Chg F w wr) ∧ Hid (runE S (L.take k) = 0)) (fun _ vi _ => n - (intOf vi).toNat)
  case atStart => exact ⟨0, 0, F, by omega, rfl, rfl, by omega, by omega, rfl, HD0, fun g hg => Or.inl hg, Chg.refl _ _, rfl⟩
  case round =>
    clear HD0
    obtain ⟨k, m, Fk, hk, rfl, rfl, hm0, hmk, HMk, HDk, HFk, HCk, HEk⟩ := hrel
    by_cases hlt : k < n
    · have hltz : (k : Int) < n := by omega
      have hkl : k < L.length := by rw [HN.out]; exact hlt
      obtain ⟨bo, oo, rfl, _, hc⟩ := (HI.out.stay (HCk.out.stay fun g hg => HG.out g (Or.inl hg)) (HCk.out.stay fun g hg => HG.out g (Or.inr hg))).some (by intro e; rw [e] at hkl; simp at hkl)
      have ha := hc k hkl
      have hxm := HSZ.out _ (getO_mem hkl)
      obtain ⟨hr1, hr2⟩ := run_go (S := S) hkl HEk.out
      have hst := run_stop (S := S) hkl HEk.out
      have hrn := cntN_go (S := S) hkl HEk.out
      obtain ⟨x, hx⟩ : ∃ x, x = L.getD k oz := ⟨_, rfl⟩
      rw [← hx] at ha hxm hr1 hr2 hst hrn
      have HR1 : Hid (runE S (L.take (k + 1)) = apE (runS S (L.take k)) x) := hr1
      have HR2 : Hid (apE (runS S (L.take k)) x = 0 → runS S (L.take (k + 1)) = apS (runS S (L.take k)) x) := hr2
      have HR3 : Hid (apE (runS S (L.take k)) x = 0 → cntN S (L.take (k + 1)) = cntN S (L.take k) + (if isNew (runS S (L.take k)) x then 1 else 0)) := hrn
      have HST : Hid (apE (runS S (L.take k)) x ≠ 0 → runE S L = apE (runS S (L.take k)) x ∧ runS S L = runS S (L.take k)) := hst
      obtain ⟨⟨xa, xb⟩, xt, xp, xc, xs⟩ := x
      obtain ⟨vx, ⟨a0, a1, a2, a3, a4, a5⟩, hdx, hix⟩ := ha
      simp only at a0 a1 a2 a3 a4 a5 hdx hxm
      obtain ⟨pv, nv, cv, rfl⟩ : ∃ pv nv cv, vx = .slice pv nv cv := by obtain ⟨_, _, e9, _⟩ := hdx; exact ⟨_, _, _, e9⟩
      have hoff : In (fun g => ¬ Fk g) (.slice pv nv cv) := hix.mono fun g hg hf => by
        obtain ⟨q1, q2⟩ := HG.out g (Or.inr hg)
        rcases HFk.out g hf with e | e
        · exact q2 e
        · omega
      have HBX : Hid (Below wr.heap.size wr (wr.alloc (.cells #[.int .i64 xa, .int .i64 xb, .int .i64 xt, .string xp, .int .i64 xc, .slice pv nv cv] 30))) := (Below.refl _ _).alloc (Nat.le_refl _) _
      obtain ⟨Sk, hSk⟩ : ∃ Sk, Sk = runS S (L.take k) := ⟨_, rfl⟩
      rw [← hSk] at HR1 HR2 HR3 HST HDk
      have C := apply_any D Sk Fk xa xb xt xp xc (.slice pv nv cv) xs _ (HDk.out.below HBX.out) (hdx.below HBX.out) hoff hxm
      obtain ⟨e0, e1, e2, e3, e4, e5⟩ := six_new wr xa xb xt xp xc (.slice pv nv cv) 30
      clear hc hx hkl hdx hxm hr1 hr2 hst hrn hoff hix hSk
      go_wp2_with fail
      refine C.mono ?_
      rintro e w7 ⟨he, _, F7, hd7, hc7, hf7⟩
      have HC7 : Hid (Chg F w w7) := (HCk.out.trans (Chg.ofBelow HBX.out F)).next hc7 HFk.out
      have HF7 : Hid (∀ g, F7 g → F g ∨ w.heap.size ≤ g) := fun g hg => by
        rcases hf7 g hg with e | e
        · exact HFk.out g e
        · exact Or.inr (Nat.le_trans HCk.out.size (Nat.le_trans HBX.out.size e))
      obtain ⟨bn, hbn⟩ : ∃ bn, bn = isNew Sk ((xa, xb), xt, xp, xc, xs) := ⟨_, rfl⟩
      rw [← hbn] at he HR3
      by_cases hz : apE Sk ((xa, xb), xt, xp, xc, xs) = 0
      · rw [hz, errV_zero] at he
        subst he
        have HD7 : Hid (DocAt w7 D (runS S (L.take (k + 1))) F7) := by unfold Hid; rw [HR2.out hz]; exact hd7
        have HE7 : Hid (runE S (L.take (k + 1)) = 0) := by unfold Hid; rw [HR1.out, hz]
        have HN7 : Hid (cntN S (L.take (k + 1)) = m + (if bn then 1 else 0)) := by unfold Hid; rw [HR3.out hz, HMk.out]
        clear hd7 hc7 hf7 hbn hz C a0 a1 a2 a3 a4 a5 e0 e1 e2 e3 e4 e5
        cases bn
        · go_wp2_with fail
          go_roundw
          case rel => exact ⟨k + 1, m, F7, by omega, by go_num, rfl, hm0, by omega, by unfold Hid; rw [HN7.out]; simp, HD7, HF7, HC7, HE7⟩
          case measure => simp [intOf]; omega
        · go_wp2_with fail
          go_roundw
          case rel => exact ⟨k + 1, m + 1, F7, by omega, by go_num, rfl, by omega, by omega, by unfold Hid; rw [HN7.out]; rfl, HD7, HF7, HC7, HE7⟩
          case measure => simp [intOf]; omega
      · obtain ⟨z1, z2⟩ := HST.out hz
        rw [errV_ne hz] at he
        have HEE : Hid (errV (runE S L) = .iface 64 (.int .i64 (apE Sk ((xa, xb), xt, xp, xc, xs)))) := by unfold Hid; rw [z1, errV_ne hz]
        have HTN : Hid (takeN S L = 0) := by unfold Hid takeN; rw [z1, if_pos hz]
        have HD7 : Hid (DocAt w7 D (runS S L) F7) := by unfold Hid; rw [stay_wrong hz] at hd7; rw [z2]; exact hd7
        obtain ⟨ez, hez⟩ : ∃ ez, ez = apE Sk ((xa, xb), xt, xp, xc, xs) := ⟨_, rfl⟩
        rw [← hez] at he HEE
        subst he
        clear hd7 hc7 hf7 hbn hz C a0 a1 a2 a3 a4 a5 e0 e1 e2 e3 e4 e5 z1 z2 hez HR1 HR2 HR3 HST
        go_wp2_with fail
        go_ret2
        exact ⟨by rw [HEE.out, HTN.out]; rfl, F7, HD7.out, HC7.out, HF7.out⟩
    · obtain rfl : n = k := by omega
      have hltz : ¬ (n : Int) < n := by omega
      have htk : Hid (L.take n = L) := by unfold Hid; rw [← HN.out, List.take_length]
      go_wp2_with fail
      go_ret2
      rw [htk.out] at HDk HEk HMk
      exact ⟨by unfold takeN; rw [HEk.out, HMk.out, if_neg (by decide)]; rfl, Fk, HDk.out, HCk.out, HFk.out⟩

theorem right_len {l : List Ox} (h : ∀ o ∈ l, opE o = 0) : ∀ x ∈ l, x.2.2.1.size ≤ maxLen := fun x hx => by
  have h3 := (opE_zero.1 (h x hx)).2.2.1
  by_cases h12 : 12 < x.2.2.1.toList.length
  · unfold Pm.chk at h3; rw [if_pos h12] at h3; cases h3
  · rw [Om.len_eq] at h12
    unfold maxLen; omega
theorem lackE_doc {A B : Dq} (IA : Inv A) (IB : Inv B) : lackE A.ops B.known = 0 := by
  unfold lackE
  rw [vec_ok IB, if_neg (by decide)]
  exact packE_zero.2 ⟨IA.few, IA.right⟩
theorem new_off {w w' : World} {F : Nat → Prop} {D : Nat} {S : Dq} (h : DocAt w D S F) : ∀ g, New w.heap.size w' g ∨ New w.heap.size w' g → g < w'.heap.size ∧ ¬ F g := fun g hg => by
  have hg : New w.heap.size w' g := by rcases hg with e | e <;> exact e
  exact ⟨hg.2, fun e => by have := h.lt g e; have := hg.1; omega⟩

def BrPost (w : World) (D : Nat) (A B : Dq) (F : Nat → Prop) (e : Ending) (w' : World) : Prop :=
  e = .returned (.tuple #[.int .i64 (takeN B (lackL A.ops B.known)), errV (b1E A B)]) ∧ ∃ F', DocAt w' D (b1S A B) F' ∧ Chg F w w' ∧ ∀ g, F' g → F g ∨ w.heap.size ≤ g
set_option maxRecDepth 100000 in
set_option maxHeartbeats 2000000 in
theorem bring_any (D1 D2 : Nat) (A B : Dq) (F1 F2 : Nat → Prop) (w : World) (h1 : DocAt w D1 A F1) (h2 : DocAt w D2 B F2) :
    Calls Tryz.prog 37 #[.pointer (some ⟨D1, 0, none⟩), .pointer (some ⟨D2, 0, none⟩)] w (BrPost w D2 A B F2) := by
  have H2 : Hid (DocAt w D2 B F2) := h2
  have HR : Hid (∀ x ∈ A.ops, x.2.2.1.size ≤ maxLen) := right_len h1.inv.right
  have HLE : Hid (lackE A.ops B.known = 0) := lackE_doc h1.inv h2.inv
  have C1 := ops_get D1 A F1 w h1
  clear h1 h2
  go_enter Tryz.func37, Tryz.ntmps37
  go_wp2_with fail
  refine C1.mono ?_
  rintro e w1 ⟨v1, rfl, ho1, hb1⟩
  have HO1 : Hid (OpsAt w1 v1 A.ops) := ho1.at
  have HB1 : Hid (Below w.heap.size w w1) := hb1
  obtain ⟨p1, n1, c1, rfl⟩ : ∃ p n c, v1 = .slice p n c := by obtain ⟨_, _, e9, _⟩ := HO1.out; exact ⟨_, _, _, e9⟩
  have C2 := known_get D2 B F2 w1 (H2.out.below hb1)
  clear ho1 hb1 C1
  go_wp2_with fail
  refine C2.mono ?_
  rintro e w2 ⟨v2, rfl, hk2, _, hb2⟩
  have HK2 : Hid (KnAt w2 v2 B.known) := hk2
  have HB2 : Hid (Below w.heap.size w w2) := bel HB1.out hb2
  obtain ⟨p2, n2, c2, rfl⟩ : ∃ p n c, v2 = .slice p n c := by obtain ⟨_, _, e9, _⟩ := HK2.out; exact ⟨_, _, _, e9⟩
  have C3 := lacks_any (.slice p1 n1 c1) (.slice p2 n2 c2) A.ops B.known w2 (HO1.out.below hb2) HR.out hk2
  clear hk2 hb2 C2 HO1 HK2
  go_wp2_with fail
  refine C3.mono ?_
  rintro e w3 ⟨p3, n3, c3, rfl, ho3, hb3⟩
  have HB3 : Hid (Below w.heap.size w w3) := bel HB2.out hb3
  have HO3 : Hid (OpsJ (New w2.heap.size w3) (New w2.heap.size w3) w3 (.slice p3 n3 c3) (lackL A.ops B.known)) := by
    unfold Hid; rw [HLE.out] at ho3; unfold outL at ho3; rw [if_pos rfl] at ho3; exact ho3
  have C4 := take_any D2 B F2 _ _ (.slice p3 n3 c3) (lackL A.ops B.known) w3 (H2.out.below HB3.out) HO3.out (new_off (H2.out.below HB2.out)) (fun x hx => HR.out x (lack_mem hx))
  obtain ⟨ev, hev⟩ : ∃ ev, ev = errV (lackE A.ops B.known) := ⟨_, rfl⟩
  rw [← hev]
  clear hev ho3 hb3 C3 HO3
  go_wp2_with fail
  refine C4.mono ?_
  rintro e w4 ⟨rfl, F4, hd4, hc4, hf4⟩
  have HP : Hid (BrPost w D2 A B F2 (.returned (.tuple #[.int .i64 (takeN B (lackL A.ops B.known)), errV (b1E A B)])) w4) := ⟨rfl, F4, hd4, (Chg.ofBelow HB3.out F2).trans hc4, fun g hg => by
    rcases hf4 g hg with e | e
    · exact Or.inl e
    · exact Or.inr (Nat.le_trans HB3.out.size e)⟩
  have hee : errV (runE B (lackL A.ops B.known)) = errV (b1E A B) := rfl
  rw [hee]
  obtain ⟨ev2, hev2⟩ : ∃ ev2, ev2 = errV (b1E A B) := ⟨_, rfl⟩
  obtain ⟨tn, htn⟩ : ∃ tn, tn = takeN B (lackL A.ops B.known) := ⟨_, rfl⟩
  rw [← hev2, ← htn] at HP
  rw [← hev2, ← htn]
  clear hd4 hc4 hf4 C4 hee hev2 htn
  go_wp2_with fail
  go_ret2
  exact HP.out

def BoPost (w : World) (D1 D2 : Nat) (A B : Dq) (F1 F2 : Nat → Prop) (e : Ending) (w' : World) : Prop :=
  e = .returned (.tuple #[.int .i64 (botN A B), .int .i64 (botM A B), errV (botE A B)]) ∧ ∃ G1 G2, DocAt w' D1 (botA A B) G1 ∧ DocAt w' D2 (b1S A B) G2 ∧ Chg (fun g => F1 g ∨ F2 g) w w' ∧ (∀ g, G1 g → F1 g ∨ w.heap.size ≤ g) ∧ (∀ g, G2 g → F2 g ∨ w.heap.size ≤ g) ∧ ∀ g, G1 g → ¬ G2 g
set_option maxRecDepth 100000 in
set_option maxHeartbeats 2000000 in
theorem both_any (D1 D2 : Nat) (A B : Dq) (F1 F2 : Nat → Prop) (w : World) (h1 : DocAt w D1 A F1) (h2 : DocAt w D2 B F2) (hx : ∀ g, F1 g → ¬ F2 g) :
    Calls Tryz.prog 14 #[.pointer (some ⟨D1, 0, none⟩), .pointer (some ⟨D2, 0, none⟩)] w (BoPost w D1 D2 A B F1 F2) := by
  have H1 : Hid (DocAt w D1 A F1) := h1
  have HX : Hid (∀ g, F1 g → ¬ F2 g) := hx
  have C1 := bring_any D1 D2 A B F1 F2 w h1 h2
  clear h1 h2 hx
  by_cases hz : b1E A B = 0
  · have HZ : Hid (b1E A B = 0) := hz
    have HTN : Hid (takeN B (lackL A.ops B.known) = b1N A B) := by unfold Hid takeN b1N; rw [if_neg (by simpa [b1E] using hz)]
    have HE2 : Hid (botE A B = b1E (b1S A B) A) := by unfold Hid botE; rw [if_neg (by simpa using hz)]
    have HA2 : Hid (botA A B = b1S (b1S A B) A) := by unfold Hid botA; rw [if_neg (by simpa using hz)]
    go_enter Tryz.func14, Tryz.ntmps14
    go_wp2_with fail
    refine C1.mono ?_
    rintro e w1 ⟨he, F3, hd1, hc1, hf1⟩
    rw [HTN.out, HZ.out, errV_zero] at he
    subst he
    have HD2 : Hid (DocAt w1 D2 (b1S A B) F3) := hd1
    have HC1 : Hid (Chg F2 w w1) := hc1
    have HF3 : Hid (∀ g, F3 g → F2 g ∨ w.heap.size ≤ g) := hf1
    have HD1 : Hid (DocAt w1 D1 A F1) := H1.out.chg hc1 HX.out
    have HX1 : Hid (∀ g, F1 g → ¬ F3 g) := fun g e1 e2 => by
      rcases hf1 g e2 with e | e
      · exact HX.out g e1 e
      · have := H1.out.lt g e1; omega
    have C2 := bring_any D2 D1 (b1S A B) A F3 F1 w1 HD2.out HD1.out
    obtain ⟨n1, hn1⟩ : ∃ n1, n1 = b1N A B := ⟨_, rfl⟩
    have HN1 : Hid (n1 = b1N A B) := hn1
    rw [← hn1]
    clear hd1 hc1 hf1 C1 hz hn1 HTN HZ
    by_cases hz2 : b1E (b1S A B) A = 0
    · have HTN : Hid (takeN A (lackL (b1S A B).ops A.known) = b1N (b1S A B) A) := by unfold Hid takeN; unfold b1E at hz2; rw [hz2, if_neg (by decide)]; rfl
      have HN : Hid (botN A B = b1N A B) := by unfold Hid botN; rw [HE2.out, hz2, if_neg (by decide)]
      have HM : Hid (botM A B = b1N (b1S A B) A) := by unfold Hid botM; rw [HE2.out, hz2, if_neg (by decide)]
      have HZ2 : Hid (b1E (b1S A B) A = 0) := hz2
      go_wp2_with fail
      refine C2.mono ?_
      rintro e w2 ⟨he, F4, hd2, hc2, hf2⟩
      rw [HTN.out, HZ2.out, errV_zero] at he
      subst he
      have HP : Hid (BoPost w D1 D2 A B F1 F2 (.returned (.tuple #[.int .i64 n1, .int .i64 (b1N (b1S A B) A), .nilIface])) w2) := by
        refine ⟨by rw [HN.out, HM.out, HE2.out, HZ2.out, errV_zero, HN1.out], F4, F3, by rw [HA2.out]; exact hd2, HD2.out.chg hc2 (fun g e1 e2 => HX1.out g e2 e1), ?_, fun g hg => ?_, HF3.out, fun g e1 e2 => ?_⟩
        · exact (HC1.out.mono fun g hg => Or.inr hg).trans (hc2.mono fun g hg => Or.inl hg)
        · rcases hf2 g hg with e | e
          · exact Or.inl e
          · exact Or.inr (Nat.le_trans HC1.out.size e)
        · rcases hf2 g e1 with e | e
          · exact HX1.out g e e2
          · have := HD2.out.lt g e2; omega
      obtain ⟨n2, hn2⟩ : ∃ n2, n2 = b1N (b1S A B) A := ⟨_, rfl⟩
      rw [← hn2] at HP
      rw [← hn2]
      clear hd2 hc2 hf2 C2 hz2 hn2 HTN HN HM
      go_wp2_with fail
      go_ret3
      exact HP.out
    · have HN : Hid (botN A B = 0) := by unfold Hid botN; rw [HE2.out, if_pos hz2]
      have HM : Hid (botM A B = 0) := by unfold Hid botM; rw [HE2.out, if_pos hz2]
      go_wp2_with fail
      refine C2.mono ?_
      rintro e w2 ⟨he, F4, hd2, hc2, hf2⟩
      obtain ⟨t9, ht9⟩ : ∃ t9, t9 = takeN A (lackL (b1S A B).ops A.known) := ⟨_, rfl⟩
      rw [← ht9, errV_ne hz2] at he
      subst he
      have HP : Hid (BoPost w D1 D2 A B F1 F2 (.returned (.tuple #[.int .i64 0, .int .i64 0, .iface 64 (.int .i64 (b1E (b1S A B) A))])) w2) := by
        refine ⟨by rw [HN.out, HM.out, HE2.out, errV_ne hz2], F4, F3, by rw [HA2.out]; exact hd2, HD2.out.chg hc2 (fun g e1 e2 => HX1.out g e2 e1), ?_, fun g hg => ?_, HF3.out, fun g e1 e2 => ?_⟩
        · exact (HC1.out.mono fun g hg => Or.inr hg).trans (hc2.mono fun g hg => Or.inl hg)
        · rcases hf2 g hg with e | e
          · exact Or.inl e
          · exact Or.inr (Nat.le_trans HC1.out.size e)
        · rcases hf2 g e1 with e | e
          · exact HX1.out g e e2
          · have := HD2.out.lt g e2; omega
      obtain ⟨ez, hez⟩ : ∃ ez, ez = b1E (b1S A B) A := ⟨_, rfl⟩
      rw [← hez] at HP
      rw [← hez]
      clear hd2 hc2 hf2 C2 hz2 hez HN HM ht9
      go_wp2_with fail
      go_ret3
      exact HP.out
  · have HE2 : Hid (botE A B = b1E A B) := by unfold Hid botE; rw [if_pos hz]
    have HA2 : Hid (botA A B = A) := by unfold Hid botA; rw [if_pos hz]
    have HN : Hid (botN A B = 0) := by unfold Hid botN; rw [HE2.out, if_pos hz]
    have HM : Hid (botM A B = 0) := by unfold Hid botM; rw [HE2.out, if_pos hz]
    go_enter Tryz.func14, Tryz.ntmps14
    go_wp2_with fail
    refine C1.mono ?_
    rintro e w1 ⟨he, F3, hd1, hc1, hf1⟩
    obtain ⟨t9, ht9⟩ : ∃ t9, t9 = takeN B (lackL A.ops B.known) := ⟨_, rfl⟩
    rw [← ht9, errV_ne hz] at he
    subst he
    have HP : Hid (BoPost w D1 D2 A B F1 F2 (.returned (.tuple #[.int .i64 0, .int .i64 0, .iface 64 (.int .i64 (b1E A B))])) w1) := by
      refine ⟨by rw [HN.out, HM.out, HE2.out, errV_ne hz], F1, F3, by rw [HA2.out]; exact H1.out.chg hc1 HX.out, hd1, hc1.mono fun g hg => Or.inr hg, fun g hg => Or.inl hg, hf1, fun g e1 e2 => ?_⟩
      rcases hf1 g e2 with e | e
      · exact HX.out g e1 e
      · have := H1.out.lt g e1; omega
    obtain ⟨ez, hez⟩ : ∃ ez, ez = b1E A B := ⟨_, rfl⟩
    rw [← hez] at HP
    rw [← hez]
    clear hd1 hc1 hf1 C1 hz hez HN HM ht9 HE2 HA2
    go_wp2_with fail
    go_ret3
    exact HP.out

end Af
end Go.Proofs.YtpoijhfojdmdpaaGreatDoor
