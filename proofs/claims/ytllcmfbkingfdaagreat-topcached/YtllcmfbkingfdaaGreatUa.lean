/- Ops that lie in blocks of a kind; what edit.Do answers. -/
import Derived.Test.YtllcmfbkingfdaaGreatJ13
import Derived.Test.YtllcmfbkingfdaaGreatUn
namespace Go.Proofs.YtllcmfbkingfdaaGreat
namespace Ua
set_option linter.unusedVariables false
open Go.ChangeShapes Go.WideShapes Go.ChangeAt Go.RowKit Cm Ka Kb Na Om Oa Oz Oc Og Oi Hm Ia Ib Ic Idc Ie If Ig Ih Ii Ij Ik Il Im Um
open La (bel bel_drew errV_zero errV_ne own_ge own_grow own_below Lies)
open Lj (BookAt BookNew)

/- op j of a row at b, o; its list lies in blocks of G -/
def OSt (G : Nat → Prop) (w : World) (b o j : Nat) (x : Ox) : Prop := ∃ v, (w.cell? ⟨b, o + j * 6, none⟩ = some (.int .i64 x.1.1) ∧ w.cell? ⟨b, o + j * 6 + 1, none⟩ = some (.int .i64 x.1.2) ∧ w.cell? ⟨b, o + j * 6 + 2, none⟩ = some (.int .i64 x.2.1) ∧ w.cell? ⟨b, o + j * 6 + 3, none⟩ = some (.string x.2.2.1) ∧ w.cell? ⟨b, o + j * 6 + 4, none⟩ = some (.int .i64 x.2.2.2.1) ∧ w.cell? ⟨b, o + j * 6 + 5, none⟩ = some v) ∧ DtsAt w v x.2.2.2.2 ∧ In G v
def OpsI (G : Nat → Prop) (w : World) (p : Option Addr) (l : List Ox) : Prop := l = [] ∨ ∃ b o, p = some ⟨b, o, none⟩ ∧ G b ∧ ∀ j, j < l.length → OSt G w b o j (l.getD j oz)
def OpsG (G : Nat → Prop) (w : World) (v : Value) (l : List Ox) : Prop := ∃ p c, v = .slice p l.length c ∧ OpsI G w p l ∧ l.length ≤ c ∧ c ≤ maxLen ∧ (p = none → c = 0)
theorem OpsI.stay {G : Nat → Prop} {w w' : World} {p : Option Addr} {l : List Ox} (h : OpsI G w p l) (hs : Stay G w w') : OpsI G w' p l := by
  rcases h with e | ⟨b, o, hp, hG, hc⟩
  · exact Or.inl e
  · refine Or.inr ⟨b, o, hp, hG, fun j hj => ?_⟩
    obtain ⟨v, ⟨h0, h1, h2, h3, h4, h5⟩, hd, hi⟩ := hc j hj
    have hg := hs b hG
    exact ⟨v, ⟨(cell_stay hg).trans h0, (cell_stay hg).trans h1, (cell_stay hg).trans h2, (cell_stay hg).trans h3, (cell_stay hg).trans h4, (cell_stay hg).trans h5⟩, dots_stay hd hi hs, hi⟩
theorem OpsG.stay {G : Nat → Prop} {w w' : World} {v : Value} {l : List Ox} (h : OpsG G w v l) (hs : Stay G w w') : OpsG G w' v l := by
  obtain ⟨p, c, h1, h2, h3⟩ := h
  exact ⟨p, c, h1, h2.stay hs, h3⟩
theorem OpsI.some {G : Nat → Prop} {w : World} {p : Option Addr} {l : List Ox} (h : OpsI G w p l) (hl : l ≠ []) : ∃ b o, p = some ⟨b, o, none⟩ ∧ G b ∧ ∀ j, j < l.length → OSt G w b o j (l.getD j oz) := by
  rcases h with h | h
  · exact absurd h hl
  · exact h
theorem OpsG.at {G : Nat → Prop} {w : World} {v : Value} {l : List Ox} (h : OpsG G w v l) : OpsAt w v l := by
  obtain ⟨p, c, h1, h2, h3⟩ := h
  refine ⟨p, c, h1, ?_, h3⟩
  rcases h2 with e | ⟨b, o, hp, _, hc⟩
  · exact Or.inl e
  · refine Or.inr ⟨b, o, hp, fun j hj => ?_⟩
    obtain ⟨v, h6, hd, _⟩ := hc j hj
    exact ⟨v, h6, hd⟩
theorem OpsG.nil (G : Nat → Prop) (w : World) : OpsG G w (.slice none 0 0) [] := ⟨none, 0, rfl, Or.inl rfl, Nat.le_refl _, by unfold maxLen; omega, fun _ => rfl⟩
theorem OpsG.mono {G H : Nat → Prop} {w : World} {v : Value} {l : List Ox} (h : OpsG G w v l) (hs : ∀ g, G g → H g) : OpsG H w v l := by
  obtain ⟨p, c, h1, h2, h3⟩ := h
  refine ⟨p, c, h1, ?_, h3⟩
  rcases h2 with e | ⟨b, o, hp, hG, hc⟩
  · exact Or.inl e
  · refine Or.inr ⟨b, o, hp, hs b hG, fun j hj => ?_⟩
    obtain ⟨v, h6, hd, hi⟩ := hc j hj
    exact ⟨v, h6, hd, hi.mono hs⟩
theorem dts_in {w : World} {v : Value} {l : List Dt} (h : DtsAt w v l) : In (fun g => g < w.heap.size) v := fun a n c e hn => by
  obtain ⟨q, c2, hv, hin, _⟩ := h
  rw [e] at hv
  injection hv with e1 e2 e3
  rcases hin with e0 | ⟨bb, oo, hp9, hcs⟩
  · rw [e0] at e2; simp at e2; omega
  · rw [hp9] at e1
    injection e1 with e1
    rw [e1]
    exact (hcs 0 (by omega)).lt
/- ops that came in -/
theorem OpsG.old {w : World} {v : Value} {l : List Ox} (h : OpsAt w v l) : OpsG (fun g => g < w.heap.size) w v l := by
  obtain ⟨p, c, h1, h2, h3⟩ := h
  refine ⟨p, c, h1, ?_, h3⟩
  rcases h2 with e | ⟨b, o, hp, hc⟩
  · exact Or.inl e
  · by_cases e0 : l = []
    · exact Or.inl e0
    · refine Or.inr ⟨b, o, hp, (hc 0 (List.length_pos_iff.2 e0)).lt, fun j hj => ?_⟩
      obtain ⟨v, h6, hd⟩ := hc j hj
      exact ⟨v, h6, hd, dts_in hd⟩
/- ops that were made -/
theorem OpsG.new {B : Nat} {w : World} {v : Value} {l : List Ox} (h : OpsNew B w v l) : OpsG (fun g => B ≤ g ∧ g < w.heap.size) w v l := by
  have hat := h.at
  obtain ⟨g, L, rfl, hg, hL, hr, hl, ho⟩ := h
  have hgl : g < w.heap.size := by obtain ⟨cur, h1, _⟩ := hr; exact (Array.getElem?_eq_some_iff.1 h1).1
  obtain ⟨p, c, e, hin, h3⟩ := hat
  injection e with e1 e2 e3
  refine ⟨some ⟨g, 0, none⟩, l.length, rfl, Or.inr ⟨g, 0, rfl, ⟨hg, hgl⟩, fun j hj => ?_⟩, Nat.le_refl _, by unfold maxLen; omega, fun e => by cases e⟩
  have hj2 : j < L.length := by rw [← hL, List.length_map] at hj; exact hj
  have hy := List.getElem?_eq_getElem hj2
  have e9 : l.getD j oz = L[j].1 := by rw [← hL, List.getD_eq_getElem?_getD, List.getElem?_map, hy]; rfl
  rw [e9]
  have key := hr.at hy
  have hw := ho _ (List.getElem_mem hj2)
  refine ⟨L[j].2, ⟨?_, ?_, ?_, ?_, ?_, ?_⟩, own_dts hw, fun a n c e hn => ?_⟩
  · have := key 0 _ rfl; rwa [show j * 6 + 0 = 0 + j * 6 by omega] at this
  · have := key 1 _ rfl; rwa [show j * 6 + 1 = 0 + j * 6 + 1 by omega] at this
  · have := key 2 _ rfl; rwa [show j * 6 + 2 = 0 + j * 6 + 2 by omega] at this
  · have := key 3 _ rfl; rwa [show j * 6 + 3 = 0 + j * 6 + 3 by omega] at this
  · have := key 4 _ rfl; rwa [show j * 6 + 4 = 0 + j * 6 + 4 by omega] at this
  · have := key 5 _ rfl; rwa [show j * 6 + 5 = 0 + j * 6 + 5 by omega] at this
  · exact ⟨Lies.own hw a n c e hn, (own_lt hw a.block (by rw [e]; rfl)).1⟩

def DoPost (w : World) (D : Nat) (S : Dq) (F : Nat → Prop) (L : List Ox) (e : Ending) (w' : World) : Prop :=
  e = .returned (errV (runE S L)) ∧ ∃ F', DocAt w' D (runS S L) F' ∧ Chg F w w' ∧ ∀ g, F' g → F g ∨ w.heap.size ≤ g

set_option maxRecDepth 100000 in
set_option maxHeartbeats 4000000 in
theorem do_any (D : Nat) (S : Dq) (F G : Nat → Prop) (v : Value) (L : List Ox) (w : World) (h : DocAt w D S F) (ho : OpsG G w v L) (hG : ∀ g, G g → g < w.heap.size ∧ ¬ F g) (hsz : ∀ x ∈ L, x.2.2.1.size ≤ maxLen) :
    Calls Tryz.prog 18 #[.pointer (some ⟨D, 0, none⟩), v] w (DoPost w D S F L) := by
  obtain ⟨q, c, rfl, hin, hlc, hcm, _⟩ := ho
  obtain ⟨n, hn⟩ : ∃ n, n = L.length := ⟨_, rfl⟩
  have hnm : n ≤ maxLen := by omega
  have hnz : (n : Int) ≤ 9223372036854775807 := by unfold maxLen at hnm; omega
  rw [← hn]
  have HN : Hid (L.length = n) := hn.symm
  have HI : Hid (OpsI G w q L) := hin
  have HG : Hid (∀ g, G g → g < w.heap.size ∧ ¬ F g) := hG
  have HSZ : Hid (∀ x ∈ L, x.2.2.1.size ≤ maxLen) := hsz
  have HD0 : Hid (DocAt w D S F) := h
  clear h hin hG hsz hn hlc hcm
  go_enter Tryz.func18, Tryz.ntmps18
  go_wp2_with fail
  go_loopw [11] (fun vi wr => ∃ (k : Nat) (Fk : Nat → Prop), k ≤ n ∧ vi = .int .i64 k ∧ Hid (DocAt wr D (runS S (L.take k)) Fk) ∧ Hid (∀ g, Fk g → F g ∨ w.heap.size ≤ g) ∧ Hid (Chg F w wr) ∧ Hid (runE S (L.take k) = 0)) (fun vi _ => n - (intOf vi).toNat)
  case atStart => exact ⟨0, F, by omega, rfl, HD0, fun g hg => Or.inl hg, Chg.refl _ _, rfl⟩
  case round =>
    clear HD0
    obtain ⟨k, Fk, hk, rfl, HDk, HFk, HCk, HEk⟩ := hrel
    by_cases hlt : k < n
    · have hltz : (k : Int) < n := by omega
      have hkl : k < L.length := by rw [HN.out]; exact hlt
      obtain ⟨bo, oo, rfl, _, hc⟩ := (HI.out.stay (HCk.out.stay HG.out)).some (by intro e; rw [e] at hkl; simp at hkl)
      have ha := hc k hkl
      have hxm := HSZ.out _ (getO_mem hkl)
      obtain ⟨hr1, hr2⟩ := run_go (S := S) hkl HEk.out
      have hst := run_stop (S := S) hkl HEk.out
      obtain ⟨x, hx⟩ : ∃ x, x = L.getD k oz := ⟨_, rfl⟩
      rw [← hx] at ha hxm hr1 hr2 hst
      have HR1 : Hid (runE S (L.take (k + 1)) = apE (runS S (L.take k)) x) := hr1
      have HR2 : Hid (apE (runS S (L.take k)) x = 0 → runS S (L.take (k + 1)) = apS (runS S (L.take k)) x) := hr2
      have HST : Hid (apE (runS S (L.take k)) x ≠ 0 → runE S L = apE (runS S (L.take k)) x ∧ runS S L = runS S (L.take k)) := hst
      obtain ⟨⟨xa, xb⟩, xt, xp, xc, xs⟩ := x
      obtain ⟨vx, ⟨a0, a1, a2, a3, a4, a5⟩, hdx, hix⟩ := ha
      simp only at a0 a1 a2 a3 a4 a5 hdx hxm
      obtain ⟨pv, nv, cv, rfl⟩ : ∃ pv nv cv, vx = .slice pv nv cv := by obtain ⟨_, _, e9, _⟩ := hdx; exact ⟨_, _, _, e9⟩
      have hoff : In (fun g => ¬ Fk g) (.slice pv nv cv) := hix.mono fun g hg hf => by
        obtain ⟨q1, q2⟩ := HG.out g hg
        rcases HFk.out g hf with e | e
        · exact q2 e
        · omega
      have HBX : Hid (Below wr.heap.size wr (wr.alloc (.cells #[.int .i64 xa, .int .i64 xb, .int .i64 xt, .string xp, .int .i64 xc, .slice pv nv cv] 35))) := (Below.refl _ _).alloc (Nat.le_refl _) _
      obtain ⟨Sk, hSk⟩ : ∃ Sk, Sk = runS S (L.take k) := ⟨_, rfl⟩
      rw [← hSk] at HR1 HR2 HST HDk
      have C := apply_any D Sk Fk xa xb xt xp xc (.slice pv nv cv) xs _ (HDk.out.below HBX.out) (hdx.below HBX.out) hoff hxm
      obtain ⟨e0, e1, e2, e3, e4, e5⟩ := six_new wr xa xb xt xp xc (.slice pv nv cv) 35
      clear hc hx hkl hdx hxm hr1 hr2 hst hoff hix hSk
      go_wp2_with fail
      refine C.mono ?_
      rintro e w7 ⟨he, _, F7, hd7, hc7, hf7⟩
      have HC7 : Hid (Chg F w w7) := (HCk.out.trans (Chg.ofBelow HBX.out F)).next hc7 HFk.out
      have HF7 : Hid (∀ g, F7 g → F g ∨ w.heap.size ≤ g) := fun g hg => by
        rcases hf7 g hg with e | e
        · exact HFk.out g e
        · exact Or.inr (Nat.le_trans HCk.out.size (Nat.le_trans HBX.out.size e))
      obtain ⟨bn, hbn⟩ : ∃ bn, bn = isNew Sk ((xa, xb), xt, xp, xc, xs) := ⟨_, rfl⟩
      rw [← hbn] at he
      by_cases hz : apE Sk ((xa, xb), xt, xp, xc, xs) = 0
      · rw [hz, errV_zero] at he
        subst he
        have HD7 : Hid (DocAt w7 D (runS S (L.take (k + 1))) F7) := by unfold Hid; rw [HR2.out hz]; exact hd7
        have HE7 : Hid (runE S (L.take (k + 1)) = 0) := by unfold Hid; rw [HR1.out, hz]
        clear hd7 hc7 hf7 hbn hz C a0 a1 a2 a3 a4 a5 e0 e1 e2 e3 e4 e5
        go_wp2_with fail
        go_roundw
        case rel => exact ⟨k + 1, F7, by omega, by go_num, HD7, HF7, HC7, HE7⟩
        case measure => simp [intOf]; omega
      · obtain ⟨z1, z2⟩ := HST.out hz
        rw [errV_ne hz] at he
        have HEE : Hid (errV (runE S L) = .iface 69 (.int .i64 (apE Sk ((xa, xb), xt, xp, xc, xs)))) := by unfold Hid; rw [z1, errV_ne hz]
        have HD7 : Hid (DocAt w7 D (runS S L) F7) := by unfold Hid; rw [stay_wrong hz] at hd7; rw [z2]; exact hd7
        obtain ⟨ez, hez⟩ : ∃ ez, ez = apE Sk ((xa, xb), xt, xp, xc, xs) := ⟨_, rfl⟩
        rw [← hez] at he HEE
        subst he
        clear hd7 hc7 hf7 hbn hz C a0 a1 a2 a3 a4 a5 e0 e1 e2 e3 e4 e5 z1 z2 hez HR1 HR2 HST
        go_wp2_with fail
        go_ret
        exact ⟨by rw [HEE.out]; rfl, F7, HD7.out, HC7.out, HF7.out⟩
    · obtain rfl : n = k := by omega
      have hltz : ¬ (n : Int) < n := by omega
      have htk : Hid (L.take n = L) := by unfold Hid; rw [← HN.out, List.take_length]
      go_wp2_with fail
      go_ret
      rw [htk.out] at HDk HEk
      exact ⟨by rw [HEk.out]; rfl, Fk, HDk.out, HCk.out, HFk.out⟩

end Ua
end Go.Proofs.YtllcmfbkingfdaaGreat
