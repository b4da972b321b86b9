/- The reference's Split, Do. -/
import Derived.Test.YtnniggjeadlbgaaGreatDoorUw
import Derived.Test.YtnniggjeadlbgaaGreatDoorXf
namespace Go.Proofs.YtnniggjeadlbgaaGreatDoor
namespace Ux
set_option linter.unusedVariables false
set_option linter.unusedSimpArgs false
open Go.ChangeShapes Go.WideShapes Go.ChangeAt Go.RowKit Cm Ka Kb Na Om Oa Oz Oc Og Oi Hm Ia Ib Ic Idc Ie If Ig Ih Ii Ij Ik Il Im Um Ua Ub Uc Ud Ue Uf Xa Us Ut Uu Uv
open La (bel bel_drew errV_zero errV_ne own_ge own_grow own_below Lies LeafsIn)
open Lj (BookAt BookNew)
open Xg (Parts)

/- Do -/
def RdPost (B : Nat) (w : World) (E : Nat) (S : Dq) (F : Nat → Prop) (L : List Ox) (e : Ending) (w' : World) : Prop :=
  e = .returned (.int .i64 (runE S L)) ∧ ∃ F', RefAt B w' E (runS S L) F' ∧ Chg F w w' ∧ ∀ g, F' g → F g ∨ w.heap.size ≤ g
set_option maxRecDepth 100000 in
set_option maxHeartbeats 4000000 in
theorem do_ref (B E : Nat) (S : Dq) (F : Nat → Prop) (v : Value) (L : List Ox) (w0 w : World) (h : RefAt B w E S F) (ho : OpsAt w0 v L) (hB : B = w0.heap.size) (hb : Below B w0 w) (hsz : ∀ x ∈ L, x.2.2.1.size ≤ maxLen) :
    Calls Tryz.prog 32 #[.pointer (some ⟨E, 0, none⟩), v] w (RdPost B w E S F L) := by
  subst hB
  obtain ⟨q, c, rfl, hin, hlc, hcm, _⟩ := ho
  obtain ⟨n, hn⟩ : ∃ n, n = L.length := ⟨_, rfl⟩
  have hnm : n ≤ maxLen := by omega
  have hnz : (n : Int) ≤ 9223372036854775807 := by unfold maxLen at hnm; omega
  rw [← hn]
  have HN : Hid (L.length = n) := hn.symm
  have HI : Hid (OpsIn w0 q L) := hin
  have HSZ : Hid (∀ x ∈ L, x.2.2.1.size ≤ maxLen) := hsz
  have HD0 : Hid (RefAt w0.heap.size w E S F) := h
  have HB0 : Hid (Below w0.heap.size w0 w) := hb
  have HF0 : Hid (∀ g, F g → w0.heap.size ≤ g) := fun g hg => (h.lt g hg).1
  clear h hin hsz hn hlc hcm hb
  go_enter Tryz.func32, Tryz.ntmps32
  go_wp2_with fail
  go_loopw [5] (fun vi wr => ∃ (k : Nat) (Fk : Nat → Prop), k ≤ n ∧ vi = .int .i64 k ∧ Hid (RefAt w0.heap.size wr E (runS S (L.take k)) Fk) ∧ Hid (∀ g, Fk g → F g ∨ w.heap.size ≤ g) ∧ Hid (Chg F w wr) ∧ Hid (runE S (L.take k) = 0)) (fun vi _ => n - (intOf vi).toNat)
  case atStart => exact ⟨0, F, by omega, rfl, HD0, fun g hg => Or.inl hg, Chg.refl _ _, rfl⟩
  case round =>
    clear HD0
    obtain ⟨k, Fk, hk, rfl, HDk, HFk, HCk, HEk⟩ := hrel
    have HBk : Hid (Below w0.heap.size w0 wr) := HCk.out.below HF0.out HB0.out HB0.out.size
    by_cases hlt : k < n
    · have hltz : (k : Int) < n := by omega
      have hkl : k < L.length := by rw [HN.out]; exact hlt
      obtain ⟨bo, oo, rfl, hc⟩ := HI.out.some (by intro e; rw [e] at hkl; simp at hkl)
      have ha0 := hc k hkl
      have hxm := HSZ.out _ (getO_mem hkl)
      obtain ⟨hr1, hr2⟩ := run_go (S := S) hkl HEk.out
      have hst := run_stop (S := S) hkl HEk.out
      obtain ⟨x, hx⟩ : ∃ x, x = L.getD k oz := ⟨_, rfl⟩
      rw [← hx] at ha0 hxm hr1 hr2 hst
      have HR1 : Hid (runE S (L.take (k + 1)) = apE (runS S (L.take k)) x) := hr1
      have HR2 : Hid (apE (runS S (L.take k)) x = 0 → runS S (L.take (k + 1)) = apS (runS S (L.take k)) x) := hr2
      have HST : Hid (apE (runS S (L.take k)) x ≠ 0 → runE S L = apE (runS S (L.take k)) x ∧ runS S L = runS S (L.take k)) := hst
      obtain ⟨⟨xa, xb⟩, xt, xp, xc, xs⟩ := x
      obtain ⟨vx, ⟨g0, g1, g2, g3, g4, g5⟩, hdx0⟩ := ha0
      simp only at g0 g1 g2 g3 g4 g5 hdx0 hxm
      obtain ⟨pv, nv, cv, rfl⟩ : ∃ pv nv cv, vx = .slice pv nv cv := by obtain ⟨_, _, e9, _⟩ := hdx0; exact ⟨_, _, _, e9⟩
      obtain ⟨Sk, hSk⟩ : ∃ Sk, Sk = runS S (L.take k) := ⟨_, rfl⟩
      rw [← hSk] at HR1 HR2 HST HDk
      have C := Xf.apply_ref w0.heap.size E Sk Fk xa xb xt xp xc (.slice pv nv cv) xs wr HDk.out (hdx0.below HBk.out) (Xg.in_old hdx0) hxm
      have a0 := keep_cell HBk.out g0
      have a1 := keep_cell HBk.out g1
      have a2 := keep_cell HBk.out g2
      have a3 := keep_cell HBk.out g3
      have a4 := keep_cell HBk.out g4
      have a5 := keep_cell HBk.out g5
      clear hc hx hkl hdx0 hxm hr1 hr2 hst hSk g0 g1 g2 g3 g4 g5
      go_wp2_with fail
      refine C.mono ?_
      rintro e w7 ⟨he, F7, hd7, hc7, hf7⟩
      have HC7 : Hid (Chg F w w7) := HCk.out.next hc7 HFk.out
      have HF7 : Hid (∀ g, F7 g → F g ∨ w.heap.size ≤ g) := fun g hg => by
        rcases hf7 g hg with e | e
        · exact HFk.out g e
        · exact Or.inr (Nat.le_trans HCk.out.size e)
      obtain ⟨bn, hbn⟩ : ∃ bn, bn = isNew Sk ((xa, xb), xt, xp, xc, xs) := ⟨_, rfl⟩
      rw [← hbn] at he
      by_cases hz : apE Sk ((xa, xb), xt, xp, xc, xs) = 0
      · rw [hz] at he
        subst he
        have HD7 : Hid (RefAt w0.heap.size w7 E (runS S (L.take (k + 1))) F7) := by unfold Hid; rw [HR2.out hz]; exact hd7
        have HE7 : Hid (runE S (L.take (k + 1)) = 0) := by unfold Hid; rw [HR1.out, hz]
        clear hd7 hc7 hf7 hbn hz C a0 a1 a2 a3 a4 a5
        go_wp2_with fail
        go_roundw
        case rel => exact ⟨k + 1, F7, by omega, by go_num, HD7, HF7, HC7, HE7⟩
        case measure => simp [intOf]; omega
      · obtain ⟨z1, z2⟩ := HST.out hz
        have HEE : Hid (runE S L = apE Sk ((xa, xb), xt, xp, xc, xs)) := z1
        have HD7 : Hid (RefAt w0.heap.size w7 E (runS S L) F7) := by unfold Hid; rw [stay_wrong hz] at hd7; rw [z2]; exact hd7
        have HZ : Hid (apE Sk ((xa, xb), xt, xp, xc, xs) ≠ 0) := hz
        obtain ⟨ez, hez⟩ : ∃ ez, ez = apE Sk ((xa, xb), xt, xp, xc, xs) := ⟨_, rfl⟩
        rw [← hez] at he HEE HZ
        have hzb : (ez != 0) = true := by have := HZ.out; simpa using this
        subst he
        clear hd7 hc7 hf7 hbn hz C a0 a1 a2 a3 a4 a5 z1 z2 hez HR1 HR2 HST
        go_wp2_with fail
        go_ret
        exact ⟨by rw [HEE.out]; rfl, F7, HD7.out, HC7.out, HF7.out⟩
    · obtain rfl : n = k := by omega
      have hltz : ¬ (n : Int) < n := by omega
      have htk : Hid (L.take n = L) := by unfold Hid; rw [← HN.out, List.take_length]
      go_wp2_with fail
      go_ret
      rw [htk.out] at HDk HEk
      exact ⟨by rw [HEk.out]; rfl, Fk, HDk.out, HCk.out, HFk.out⟩

end Ux
end Go.Proofs.YtnniggjeadlbgaaGreatDoor
