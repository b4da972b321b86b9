/- What sync.apply, bring and Both answer. -/
import Derived.Test.YthalakfphecflaaGreatDoorAe
namespace Go.Proofs.YthalakfphecflaaGreatDoor
namespace Af
set_option linter.unusedVariables false
set_option linter.unusedSimpArgs false
open Go.ChangeShapes Go.WideShapes Go.ChangeAt Go.RowKit Cm Ka Kb Na Om Oa Oz Oc Og Oi Hm Ia Ib Ic Idc Ie If Ig Ih Ii Ij Ik Il Im Iq Um Aa Ac Ae
open La (bel bel_drew errV_zero errV_ne own_ge own_grow own_below Lies)

def TkPost (w : World) (D : Nat) (S : Dq) (F : Nat → Prop) (L : List Ox) (e : Ending) (w' : World) : Prop :=
  e = .returned (.tuple #[.int .i64 (takeN S L), errV (runE S L)]) ∧ ∃ F', DocAt w' D (runS S L) F' ∧ Chg F w w' ∧ ∀ g, F' g → F g ∨ w.heap.size ≤ g

set_option maxRecDepth 100000 in
set_option maxHeartbeats 4000000 in
theorem take_any (D : Nat) (S : Dq) (F R Q : Nat → Prop) (v : Value) (L : List Ox) (w : World) (h : DocAt w D S F) (ho : OpsJ R Q w v L) (hG : ∀ g, R g ∨ Q g → g < w.heap.size ∧ ¬ F g) (hsz : ∀ x ∈ L, x.2.2.1.size ≤ maxLen) :
    Calls Tryz.prog 73 #[.pointer (some ⟨D, 0, none⟩), v] w (TkPost w D S F L) := by
  obtain ⟨q, c, rfl, hin, hlc, hcm, _⟩ := ho
  obtain ⟨n, hn⟩ : ∃ n, n = L.length := ⟨_, rfl⟩
  have hnm : n ≤ maxLen := by omega
  have hnz : (n : Int) ≤ 9223372036854775807 := by unfold maxLen at hnm; omega
  rw [← hn]
  have HN : Hid (L.length = n) := hn.symm
  have HI : Hid (OpsK R Q w q L) := hin
  have HG : Hid (∀ g, R g ∨ Q g → g < w.heap.size ∧ ¬ F g) := hG
  have HSZ : Hid (∀ x ∈ L, x.2.2.1.size ≤ maxLen) := hsz
  have HD0 : Hid (DocAt w D S F) := h
  clear h hin hG hsz hn hlc hcm
  go_enter Tryz.func73, Tryz.ntmps73
  go_wp2_with fail
  go_loopw [6, 13] (fun vm vi wr => ∃ (k : Nat) (m : Int) (Fk : Nat → Prop), k ≤ n ∧ vi = .int .i64 k ∧ vm = .int .i64 m ∧ 0 ≤ m ∧ m ≤ k ∧ Hid (m = cntN S (L.take k)) ∧ Hid (DocAt wr D (runS S (L.take k)) Fk) ∧ Hid (∀ g, Fk g → F g ∨ w.heap.size ≤ g) ∧ Hid (Chg F w wr) ∧ Hid (runE S (L.take k) = 0)) (fun _ vi _ => n - (intOf vi).toNat)
  case atStart => exact ⟨0, 0, F, by omega, rfl, rfl, by omega, by omega, rfl, HD0, fun g hg => Or.inl hg, Chg.refl _ _, rfl⟩
  case round =>
    clear HD0
    obtain ⟨k, m, Fk, hk, rfl, rfl, hm0, hmk, HMk, HDk, HFk, HCk, HEk⟩ := hrel
    by_cases hlt : k < n
    · have hltz : (k : Int) < n := by omega
      have hkl : k < L.length := by rw [HN.out]; exact hlt
      obtain ⟨bo, oo, rfl, _, hc⟩ := (HI.out.stay (HCk.out.stay fun g hg => HG.out g (Or.inl hg)) (HCk.out.stay fun g hg => HG.out g (Or.inr hg))).some (by intro e; rw [e] at hkl; simp at hkl)
      have ha := hc k hkl
      have hxm := HSZ.out _ (getO_mem hkl)
      obtain ⟨hr1, hr2⟩ := run_go (S := S) hkl HEk.out
      have hst := run_stop (S := S) hkl HEk.out
      have hrn := cntN_go (S := S) hkl HEk.out
      obtain ⟨x, hx⟩ : ∃ x, x = L.getD k oz := ⟨_, rfl⟩
      rw [← hx] at ha hxm hr1 hr2 hst hrn
      have HR1 : Hid (runE S (L.take (k + 1)) = apE (runS S (L.take k)) x) := hr1
      have HR2 : Hid (apE (runS S (L.take k)) x = 0 → runS S (L.take (k + 1)) = apS (runS S (L.take k)) x) := hr2
      have HR3 : Hid (apE (runS S (L.take k)) x = 0 → cntN S (L.take (k + 1)) = cntN S (L.take k) + (if isNew (runS S (L.take k)) x then 1 else 0)) := hrn
      have HST : Hid (apE (runS S (L.take k)) x ≠ 0 → runE S L = apE (runS S (L.take k)) x ∧ runS S L = runS S (L.take k)) := hst
      obtain ⟨⟨xa, xb⟩, xt, xp, xc, xs⟩ := x
      obtain ⟨vx, ⟨a0, a1, a2, a3, a4, a5⟩, hdx, hix⟩ := ha
      simp only at a0 a1 a2 a3 a4 a5 hdx hxm
      obtain ⟨pv, nv, cv, rfl⟩ : ∃ pv nv cv, vx = .slice pv nv cv := by obtain ⟨_, _, e9, _⟩ := hdx; exact ⟨_, _, _, e9⟩
      have hoff : In (fun g => ¬ Fk g) (.slice pv nv cv) := hix.mono fun g hg hf => by
        obtain ⟨q1, q2⟩ := HG.out g (Or.inr hg)
        rcases HFk.out g hf with e | e
        · exact q2 e
        · omega
      have HBX : Hid (Below wr.heap.size wr (wr.alloc (.cells #[.int .i64 xa, .int .i64 xb, .int .i64 xt, .string xp, .int .i64 xc, .slice pv nv cv] 99))) := (Below.refl _ _).alloc (Nat.le_refl _) _
      obtain ⟨Sk, hSk⟩ : ∃ Sk, Sk = runS S (L.take k) := ⟨_, rfl⟩
      rw [← hSk] at HR1 HR2 HR3 HST HDk
      have C := apply_any D Sk Fk xa xb xt xp xc (.slice pv nv cv) xs _ (HDk.out.below HBX.out) (hdx.below HBX.out) hoff hxm
      obtain ⟨e0, e1, e2, e3, e4, e5⟩ := six_new wr xa xb xt xp xc (.slice pv nv cv) 99
      clear hc hx hkl hdx hxm hr1 hr2 hst hrn hoff hix hSk
      go_wp2_with fail
      refine C.mono ?_
      rintro e w7 ⟨he, _, F7, hd7, hc7, hf7⟩
      have HC7 : Hid (Chg F w w7) := (HCk.out.trans (Chg.ofBelow HBX.out F)).next hc7 HFk.out
      have HF7 : Hid (∀ g, F7 g → F g ∨ w.heap.size ≤ g) := fun g hg => by
        rcases hf7 g hg with e | e
        · exact HFk.out g e
        · exact Or.inr (Nat.le_trans HCk.out.size (Nat.le_trans HBX.out.size e))
      obtain ⟨bn, hbn⟩ : ∃ bn, bn = isNew Sk ((xa, xb), xt, xp, xc, xs) := ⟨_, rfl⟩
      rw [← hbn] at he HR3
      by_cases hz : apE Sk ((xa, xb), xt, xp, xc, xs) = 0
      · rw [hz, errV_zero] at he
        subst he
        have HD7 : Hid (DocAt w7 D (runS S (L.take (k + 1))) F7) := by unfold Hid; rw [HR2.out hz]; exact hd7
        have HE7 : Hid (runE S (L.take (k + 1)) = 0) := by unfold Hid; rw [HR1.out, hz]
        have HN7 : Hid (cntN S (L.take (k + 1)) = m + (if bn then 1 else 0)) := by unfold Hid; rw [HR3.out hz, HMk.out]
        clear hd7 hc7 hf7 hbn hz C a0 a1 a2 a3 a4 a5 e0 e1 e2 e3 e4 e5
        cases bn
        · go_wp2_with fail
          go_roundw
          case rel => exact ⟨k + 1, m, F7, by omega, by go_num, rfl, hm0, by omega, by unfold Hid; rw [HN7.out]; simp, HD7, HF7, HC7, HE7⟩
          case measure => simp [intOf]; omega
        · go_wp2_with fail
          go_roundw
          case rel => exact ⟨k + 1, m + 1, F7, by omega, by go_num, rfl, by omega, by omega, by unfold Hid; rw [HN7.out]; rfl, HD7, HF7, HC7, HE7⟩
          case measure => simp [intOf]; omega
      · obtain ⟨z1, z2⟩ := HST.out hz
        rw [errV_ne hz] at he
        have HEE : Hid (errV (runE S L) = .iface 61 (.int .i64 (apE Sk ((xa, xb), xt, xp, xc, xs)))) := by unfold Hid; rw [z1, errV_ne hz]
        have HTN : Hid (takeN S L = 0) := by unfold Hid takeN; rw [z1, if_pos hz]
        have HD7 : Hid (DocAt w7 D (runS S L) F7) := by unfold Hid; rw [stay_wrong hz] at hd7; rw [z2]; exact hd7
        obtain ⟨ez, hez⟩ : ∃ ez, ez = apE Sk ((xa, xb), xt, xp, xc, xs) := ⟨_, rfl⟩
        rw [← hez] at he HEE
        subst he
        clear hd7 hc7 hf7 hbn hz C a0 a1 a2 a3 a4 a5 e0 e1 e2 e3 e4 e5 z1 z2 hez HR1 HR2 HR3 HST
        go_wp2_with fail
        go_ret2
        exact ⟨by rw [HEE.out, HTN.out]; rfl, F7, HD7.out, HC7.out, HF7.out⟩
    · obtain rfl : n = k := by omega
      have hltz : ¬ (n : Int) < n := by omega
      have htk : Hid (L.take n = L) := by unfold Hid; rw [← HN.out, List.take_length]
      go_wp2_with fail
      go_ret2
      rw [htk.out] at HDk HEk HMk
      exact ⟨by unfold takeN; rw [HEk.out, HMk.out, if_neg (by decide)]; rfl, Fk, HDk.out, HCk.out, HFk.out⟩

theorem right_len {l : List Ox} (h : ∀ o ∈ l, opE o = 0) : ∀ x ∈ l, x.2.2.1.size ≤ maxLen := fun x hx => by
  have h3 := (opE_zero.1 (h x hx)).2.2.1
  by_cases h12 : 12 < x.2.2.1.toList.length
  · unfold Pm.chk at h3; rw [if_pos h12] at h3; cases h3
  · rw [Om.len_eq] at h12
    unfold maxLen; omega
theorem new_off {w w' : World} {F : Nat → Prop} {D : Nat} {S : Dq} (h : DocAt w D S F) : ∀ g, New w.heap.size w' g ∨ New w.heap.size w' g → g < w'.heap.size ∧ ¬ F g := fun g hg => by
  have hg : New w.heap.size w' g := by rcases hg with e | e <;> exact e
  exact ⟨hg.2, fun e => by have := h.lt g e; have := hg.1; omega⟩

end Af
end Go.Proofs.YthalakfphecflaaGreatDoor
