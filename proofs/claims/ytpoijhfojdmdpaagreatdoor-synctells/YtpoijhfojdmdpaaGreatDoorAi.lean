/- The reference's Take and Open. -/
import Derived.Test.YtpoijhfojdmdpaaGreatDoorAh
import Derived.Test.YtpoijhfojdmdpaaGreatDoorAf
import Derived.Test.YtpoijhfojdmdpaaGreatDoorXs
import Derived.Test.YtpoijhfojdmdpaaGreatDoorO2
namespace Go.Proofs.YtpoijhfojdmdpaaGreatDoor
namespace Ai
set_option linter.unusedVariables false
set_option linter.unusedSimpArgs false
open Go.ChangeShapes Go.WideShapes Go.ChangeAt Go.RowKit Cm Ka Kb Na Om Oa Oz Oc Og Oi Hm Ia Ib Ic Idc Ie If Ig Ih Ii Ij Ik Il Im Iq Um Aa Ac Ae Af Xp
open La (bel bel_drew errV_zero errV_ne own_ge own_grow own_below Lies)

def RtPost (P : Nat → Prop) (w : World) (E : Nat) (S : Dq) (F : Nat → Prop) (L : List Ox) (e : Ending) (w' : World) : Prop :=
  e = .returned (.tuple #[.int .i64 (takeN S L), .int .i64 (runE S L)]) ∧ ∃ F', RefAt P w' E (runS S L) F' ∧ Chg F w w' ∧ ∀ g, F' g → F g ∨ w.heap.size ≤ g
set_option maxRecDepth 100000 in
set_option maxHeartbeats 4000000 in
theorem take_ref (P : Nat → Prop) (E : Nat) (S : Dq) (F R : Nat → Prop) (v : Value) (L : List Ox) (w : World) (h : RefAt P w E S F) (ho : OpsJ R P w v L) (hR : ∀ g, R g → g < w.heap.size ∧ ¬ F g) (hsz : ∀ x ∈ L, x.2.2.1.size ≤ maxLen) :
    Calls Tryz.prog 13 #[.pointer (some ⟨E, 0, none⟩), v] w (RtPost P w E S F L) := by
  obtain ⟨q, c, rfl, hin, hlc, hcm, _⟩ := ho
  obtain ⟨n, hn⟩ : ∃ n, n = L.length := ⟨_, rfl⟩
  have hnm : n ≤ maxLen := by omega
  have hnz : (n : Int) ≤ 9223372036854775807 := by unfold maxLen at hnm; omega
  rw [← hn]
  have HN : Hid (L.length = n) := hn.symm
  have HI : Hid (OpsK R P w q L) := hin
  have HG : Hid (∀ g, R g → g < w.heap.size ∧ ¬ F g) := hR
  have HP : Hid (∀ g, P g → g < w.heap.size ∧ ¬ F g) := fun g hg => ⟨h.old g hg, fun e => (h.lt g e).1 hg⟩
  have HSZ : Hid (∀ x ∈ L, x.2.2.1.size ≤ maxLen) := hsz
  have HD0 : Hid (RefAt P w E S F) := h
  clear h hin hR hsz hn hlc hcm
  go_enter Tryz.func13, Tryz.ntmps13
  go_wp2_with fail
  go_loopw [6, 7] (fun vm vi wr => ∃ (k : Nat) (m : Int) (Fk : Nat → Prop), k ≤ n ∧ vi = .int .i64 k ∧ vm = .int .i64 m ∧ 0 ≤ m ∧ m ≤ k ∧ Hid (m = cntN S (L.take k)) ∧ Hid (RefAt P wr E (runS S (L.take k)) Fk) ∧ Hid (∀ g, Fk g → F g ∨ w.heap.size ≤ g) ∧ Hid (Chg F w wr) ∧ Hid (runE S (L.take k) = 0)) (fun _ vi _ => n - (intOf vi).toNat)
  case atStart => exact ⟨0, 0, F, by omega, rfl, rfl, by omega, by omega, rfl, HD0, fun g hg => Or.inl hg, Chg.refl _ _, rfl⟩
  case round =>
    clear HD0
    obtain ⟨k, m, Fk, hk, rfl, rfl, hm0, hmk, HMk, HDk, HFk, HCk, HEk⟩ := hrel
    by_cases hlt : k < n
    · have hltz : (k : Int) < n := by omega
      have hkl : k < L.length := by rw [HN.out]; exact hlt
      obtain ⟨bo, oo, rfl, _, hc⟩ := (HI.out.stay (HCk.out.stay HG.out) (HCk.out.stay HP.out)).some (by intro e; rw [e] at hkl; simp at hkl)
      have ha := hc k hkl
      have hxm := HSZ.out _ (getO_mem hkl)
      obtain ⟨hr1, hr2⟩ := run_go (S := S) hkl HEk.out
      have hst := run_stop (S := S) hkl HEk.out
      have hrn := cntN_go (S := S) hkl HEk.out
      obtain ⟨x, hx⟩ : ∃ x, x = L.getD k oz := ⟨_, rfl⟩
      rw [← hx] at ha hxm hr1 hr2 hst hrn
      have HR1 : Hid (runE S (L.take (k + 1)) = apE (runS S (L.take k)) x) := hr1
      have HR2 : Hid (apE (runS S (L.take k)) x = 0 → runS S (L.take (k + 1)) = apS (runS S (L.take k)) x) := hr2
      have HR3 : Hid (apE (runS S (L.take k)) x = 0 → cntN S (L.take (k + 1)) = cntN S (L.take k) + (if isNew (runS S (L.take k)) x then 1 else 0)) := hrn
      have HST : Hid (apE (runS S (L.take k)) x ≠ 0 → runE S L = apE (runS S (L.take k)) x ∧ runS S L = runS S (L.take k)) := hst
      obtain ⟨⟨xa, xb⟩, xt, xp, xc, xs⟩ := x
      obtain ⟨vx, ⟨a0, a1, a2, a3, a4, a5⟩, hdx, hix⟩ := ha
      simp only at a0 a1 a2 a3 a4 a5 hdx hxm
      obtain ⟨pv, nv, cv, rfl⟩ : ∃ pv nv cv, vx = .slice pv nv cv := by obtain ⟨_, _, e9, _⟩ := hdx; exact ⟨_, _, _, e9⟩
      obtain ⟨Sk, hSk⟩ : ∃ Sk, Sk = runS S (L.take k) := ⟨_, rfl⟩
      rw [← hSk] at HR1 HR2 HR3 HST HDk
      have C := Xs.apply_ref P E Sk Fk xa xb xt xp xc (.slice pv nv cv) xs wr HDk.out hdx hix hxm
      clear hc hx hkl hdx hxm hr1 hr2 hst hrn hix hSk
      go_wp2_with fail
      refine C.mono ?_
      rintro e w7 ⟨he, F7, hd7, hc7, hf7⟩
      have HC7 : Hid (Chg F w w7) := HCk.out.next hc7 HFk.out
      have HF7 : Hid (∀ g, F7 g → F g ∨ w.heap.size ≤ g) := fun g hg => by
        rcases hf7 g hg with e | e
        · exact HFk.out g e
        · exact Or.inr (Nat.le_trans HCk.out.size e)
      obtain ⟨bn, hbn⟩ : ∃ bn, bn = isNew Sk ((xa, xb), xt, xp, xc, xs) := ⟨_, rfl⟩
      rw [← hbn] at he HR3
      by_cases hz : apE Sk ((xa, xb), xt, xp, xc, xs) = 0
      · rw [hz] at he
        subst he
        have HD7 : Hid (RefAt P w7 E (runS S (L.take (k + 1))) F7) := by unfold Hid; rw [HR2.out hz]; exact hd7
        have HE7 : Hid (runE S (L.take (k + 1)) = 0) := by unfold Hid; rw [HR1.out, hz]
        have HN7 : Hid (cntN S (L.take (k + 1)) = m + (if bn then 1 else 0)) := by unfold Hid; rw [HR3.out hz, HMk.out]
        clear hd7 hc7 hf7 hbn hz C a0 a1 a2 a3 a4 a5
        cases bn
        · go_wp2_with fail
          go_roundw
          case rel => exact ⟨k + 1, m, F7, by omega, by go_num, rfl, hm0, by omega, by unfold Hid; rw [HN7.out]; simp, HD7, HF7, HC7, HE7⟩
          case measure => simp [intOf]; omega
        · go_wp2_with fail
          go_roundw
          case rel => exact ⟨k + 1, m + 1, F7, by omega, by go_num, rfl, by omega, by omega, by unfold Hid; rw [HN7.out]; rfl, HD7, HF7, HC7, HE7⟩
          case measure => simp [intOf]; omega
      · obtain ⟨z1, z2⟩ := HST.out hz
        have HEE : Hid (runE S L = apE Sk ((xa, xb), xt, xp, xc, xs)) := z1
        have HTN : Hid (takeN S L = 0) := by unfold Hid takeN; rw [z1, if_pos hz]
        have HD7 : Hid (RefAt P w7 E (runS S L) F7) := by unfold Hid; rw [stay_wrong hz] at hd7; rw [z2]; exact hd7
        have HZ : Hid (apE Sk ((xa, xb), xt, xp, xc, xs) ≠ 0) := hz
        obtain ⟨ez, hez⟩ : ∃ ez, ez = apE Sk ((xa, xb), xt, xp, xc, xs) := ⟨_, rfl⟩
        rw [← hez] at he HEE HZ
        have hzb : (ez != 0) = true := by have := HZ.out; simpa using this
        subst he
        clear hd7 hc7 hf7 hbn hz C a0 a1 a2 a3 a4 a5 z1 z2 hez HR1 HR2 HR3 HST
        go_wp2_with fail
        go_ret2
        exact ⟨by rw [HEE.out, HTN.out]; rfl, F7, HD7.out, HC7.out, HF7.out⟩
    · obtain rfl : n = k := by omega
      have hltz : ¬ (n : Int) < n := by omega
      have htk : Hid (L.take n = L) := by unfold Hid; rw [← HN.out, List.take_length]
      go_wp2_with fail
      go_ret2
      rw [htk.out] at HDk HEk HMk
      exact ⟨by unfold takeN; rw [HEk.out, HMk.out, if_neg (by decide)]; rfl, Fk, HDk.out, HCk.out, HFk.out⟩

/- what a parcel has is applied -/
def RoPost (w : World) (E : Nat) (S : Dq) (F : Nat → Prop) (s : ByteArray) (e : Ending) (w' : World) : Prop :=
  e = .returned (.tuple #[.int .i64 (opnN S s), .int .i64 (opnE S s)]) ∧ ∃ P' F', RefAt P' w' E (runS S (opnL s)) F' ∧ Chg F w w' ∧ (∀ g, F' g → F g ∨ w.heap.size ≤ g)
set_option maxRecDepth 100000 in
set_option maxHeartbeats 2000000 in
theorem open_ref (P : Nat → Prop) (E : Nat) (S : Dq) (F : Nat → Prop) (s : ByteArray) (w : World) (h : RefAt P w E S F) (hs : s.size ≤ maxLen) :
    Calls Tryz.prog 15 #[.pointer (some ⟨E, 0, none⟩), .string s] w (RoPost w E S F s) := by
  have H : Hid (RefAt P w E S F) := h
  have C := Ok.unpack_kept s w hs
  clear h
  cases hu : unpB s.toList with
  | none =>
    rw [hu] at C
    simp only [Option.isSome_none] at C
    have HL : Hid (opnL s = []) := by unfold Hid opnL; rw [hu]; rfl
    have HE : Hid (opnE S s = 2) := by unfold Hid opnE; rw [hu]; rfl
    have HN : Hid (opnN S s = 0) := by unfold Hid opnN; rw [hu]; rfl
    clear hu
    go_enter Tryz.func15, Tryz.ntmps15
    go_wp2_with fail
    refine C.mono ?_
    rintro e w1 ⟨v1, rfl, _, ⟨p1, n1, c1, rfl⟩, hb1⟩
    have HB1 : Hid (Below w.heap.size w w1) := hb1
    clear hb1 C
    go_wp2_with fail
    go_ret2
    exact ⟨by rw [HE.out, HN.out]; rfl, P, F, by rw [HL.out]; exact H.out.below HB1.out, Chg.ofBelow HB1.out F, fun g hg => Or.inl hg⟩
  | some l =>
    rw [hu] at C
    simp only [Option.isSome_some] at C
    have HL : Hid (opnL s = l) := by unfold Hid opnL; rw [hu]; rfl
    have HE : Hid (opnE S s = runE S l) := by unfold Hid opnE; rw [hu, HL.out]; rfl
    have HN : Hid (opnN S s = takeN S l) := by unfold Hid opnN; rw [hu, HL.out]; rfl
    have HR : Hid (∀ x ∈ l, x.2.2.1.size ≤ maxLen) := by
      have := right_len (opn_right s)
      rw [HL.out] at this; exact this
    clear hu
    go_enter Tryz.func15, Tryz.ntmps15
    go_wp2_with fail
    refine C.mono ?_
    rintro e w1 ⟨v1, rfl, hk1, ⟨p1, n1, c1, rfl⟩, hb1⟩
    have HO1 : Hid (OpsJ (New w.heap.size w1) (New w.heap.size w1) w1 (.slice p1 n1 c1) l) := OpsJ.kept (hk1 l rfl)
    have HB1 : Hid (Below w.heap.size w w1) := hb1
    have HM1 : Hid (RefAt (fun g => P g ∨ New w.heap.size w1 g) w1 E S F) := (H.out.below hb1).more (fun g hg => Or.inl hg) (fun g hg => by
      rcases hg with e | e
      · exact ⟨(H.out.below HB1.out).old g e, fun e9 => (H.out.lt g e9).1 e⟩
      · exact ⟨e.2, fun e9 => by have := (H.out.lt g e9).2; have := e.1; omega⟩)
    have C2 := take_ref (fun g => P g ∨ New w.heap.size w1 g) E S F (New w.heap.size w1) (.slice p1 n1 c1) l w1 HM1.out (HO1.out.mono (fun g hg => hg) (fun g hg => Or.inr hg)) (fun g hg => ⟨hg.2, fun e9 => by have := (H.out.lt g e9).2; have := hg.1; omega⟩) HR.out
    clear hk1 hb1 C HO1 HM1
    go_wp2_with fail
    refine C2.mono ?_
    rintro e w2 ⟨he, F2, hd2, hc2, hf2⟩
    rw [← HE.out, ← HN.out] at he
    have HP : Hid (RoPost w E S F s e w2) := ⟨he, _, F2, by rw [HL.out]; exact hd2, (Chg.ofBelow HB1.out F).trans hc2, fun g hg => by
      rcases hf2 g hg with e | e
      · exact Or.inl e
      · exact Or.inr (Nat.le_trans HB1.out.size e)⟩
    obtain ⟨n9, hn9⟩ : ∃ n9, n9 = opnN S s := ⟨_, rfl⟩
    obtain ⟨e9, he9⟩ : ∃ e9, e9 = opnE S s := ⟨_, rfl⟩
    rw [← hn9, ← he9] at he
    subst he
    clear hd2 hc2 hf2 C2 hn9 he9 HE HN HL HR
    go_wp2_with fail
    go_ret2
    exact HP.out

end Ai
end Go.Proofs.YtpoijhfojdmdpaaGreatDoor
