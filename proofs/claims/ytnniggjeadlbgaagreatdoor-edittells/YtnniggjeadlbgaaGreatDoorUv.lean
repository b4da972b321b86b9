/- The reference's Insert; Maker.delete, Delete. -/
import Derived.Test.YtnniggjeadlbgaaGreatDoorUu
namespace Go.Proofs.YtnniggjeadlbgaaGreatDoor
namespace Uv
set_option linter.unusedVariables false
set_option linter.unusedSimpArgs false
open Go.ChangeShapes Go.WideShapes Go.ChangeAt Go.RowKit Cm Ka Kb Na Om Oa Oz Oc Og Oi Hm Ia Ib Ic Idc Ie If Ig Ih Ii Ij Ik Il Im Um Ua Ub Uc Ud Ue Uf Xa Us Ut Uu
open La (bel bel_drew errV_zero errV_ne own_ge own_grow own_below Lies LeafsIn)
open Lj (BookAt BookNew)
open Xg (Parts)

theorem insert_all (t : ByteArray) (M : Nat) (off : Int) (v : Value) (B : Nat) (who n : Int) (l : List Bm.Leaf) (w : World) (hm : t.size ≤ maxLen) (h : MkAt B w M who n (.slice none 0 0) []) (hbk : ∀ W, Below B w W → BookAt W v l) (hb0 : Bm.bookE l = 0) (h1 : 1 ≤ who) (h8 : who ≤ 8) (hB : B ≤ w.heap.size) (hn0 : 0 ≤ n) (hn1 : n ≤ 400) :
    Calls Tryz.prog 62 #[.pointer (some ⟨M, 0, none⟩), v, .int .i64 off, .string t] w (MkPost B w M who (insK l who off t) (insLs (leftP l off.toNat) (rightP l off.toNat) who n t t.size)) := by
  by_cases ht : textE t = 0
  · obtain ⟨q, c, e, hin, _⟩ := hbk w (Below.refl _ _)
    subst e
    by_cases hl : l = []
    · exact insert_none t M off q l.length c B who n l w h ht hbk hb0 h1 h8 hB hn0 hn1 (by rw [hl]; rfl)
    · obtain ⟨b, o, rfl, _⟩ := hin.some hl
      exact insert_some t M off b o l.length c B who n l w h ht hbk hb0 h1 h8 hB hn0 hn1
  · refine (text_loop t M off v B who n l w hm h ht).mono ?_
    rintro e w' ⟨e1, ⟨n', v', L', h2, h3⟩, h4⟩
    exact ⟨e1, ⟨n', v', L', h2, fun e9 => absurd e9 (by unfold insK; rw [if_pos ht]; exact ht)⟩, h4⟩
theorem insK_eq {S : Dq} {who off : Int} {t : ByteArray} (h1 : 1 ≤ who) (h8 : who ≤ 8) : insE S who off t = insK S.book who off t := by
  unfold insE insK; rw [isWho_iff.2 ⟨h1, h8⟩, if_neg (by simp)]
theorem insLs_eq (S : Dq) (who off : Int) (t : ByteArray) : insLs (leftP S.book off.toNat) (rightP S.book off.toNat) who (kn S who) t t.size = insL S who off t := rfl
theorem RfPost.no {w w' : World} {k : Int} {L : List Ox} (hk : k ≠ 0) (hb : Below w.heap.size w w') : RfPost w k L (.returned (.tuple #[.slice none 0 0, .int .i64 k])) w' := ⟨_, rfl, fun e => absurd e hk, fun _ => rfl, hb⟩

set_option maxRecDepth 100000 in
set_option maxHeartbeats 2000000 in
theorem insert_ref (B E : Nat) (S : Dq) (F : Nat → Prop) (who off : Int) (t : ByteArray) (w : World) (h : RefAt B w E S F) (hm : t.size ≤ maxLen) :
    Calls Tryz.prog 25 #[.pointer (some ⟨E, 0, none⟩), .int .i64 who, .int .i64 off, .string t] w (RfPost w (insE S who off t) (insL S who off t)) := by
  cases hw : Pm.isWho who with
  | false =>
    have HE : Hid (insE S who off t = 1) := by unfold Hid insE; rw [if_pos hw]
    have C := maker_no E who w (isWho_no.1 hw)
    clear h hw
    go_enter Tryz.func25, Tryz.ntmps25
    go_wp2_with fail
    refine C.mono ?_
    rintro e w2 ⟨rfl, hw⟩
    have hw2 := hw.symm
    subst hw2
    clear hw C
    go_wp2_with fail
    go_ret2
    rw [HE.out]
    exact RfPost.no (by decide) (Below.refl _ _)
  | true =>
    obtain ⟨h1, h8⟩ := isWho_iff.1 hw
    obtain ⟨pb, nb, cb, pm, nm, cm, gk, po, no, co, hp⟩ := Xg.RefAt.parts h
    have C := maker_ok B E S F who w h h1 h8
    obtain ⟨k0, k1⟩ := kn_le h.inv h1 h8
    have hf := h.inv.few
    have HP : Hid (Parts w E S pb nb cb pm nm cm gk po no co) := hp
    have CI : Hid (∀ W, Below w.heap.size w W → MkAt w.heap.size W w.heap.size who (kn S who) (.slice none 0 0) [] → Calls Tryz.prog 62 #[.pointer (some ⟨w.heap.size, 0, none⟩), .slice pb nb cb, .int .i64 off, .string t] W (MkPost w.heap.size W w.heap.size who (insE S who off t) (insL S who off t))) := fun W hb hmk => by
      rw [insK_eq h1 h8, ← insLs_eq]
      exact insert_all t w.heap.size off (.slice pb nb cb) w.heap.size who (kn S who) S.book W hm hmk (fun W2 hb2 => hp.book W2 (hb.trans hb2)) h.inv.book h1 h8 hb.size k0 (by omega)
    obtain ⟨k, hk⟩ : ∃ k, k = insE S who off t := ⟨_, rfl⟩
    rw [← hk] at CI ⊢
    clear h hw hp h1 h8 k0 k1 hf hk hm
    go_enter Tryz.func25, Tryz.ntmps25
    go_wp2_with fail
    refine C.mono ?_
    rintro e w2 ⟨rfl, hmk2, hb2⟩
    have HB2 : Hid (Below w.heap.size w w2) := hb2
    have CI2 := CI.out w2 hb2 hmk2
    have c0 := HP.out.c0 w2 hb2
    clear C hmk2 hb2 CI
    go_wp2_with fail
    refine CI2.mono ?_
    rintro e w3 ⟨rfl, ⟨n3, v3, L3, hm3, hl3⟩, hb3⟩
    have HB3 : Hid (Below w.heap.size w w3) := HB2.out.trans hb3
    by_cases hk0 : k = 0
    · subst hk0
      have CT := told_ok w.heap.size w.heap.size who n3 v3 L3 w3 hm3
      have HO3 : Hid (OpsAt w3 v3 (insL S who off t)) := by unfold Hid; rw [← hl3 rfl]; exact hm3.ops
      obtain ⟨p3, m3, c3, rfl, _⟩ := own_shape hm3.row
      clear CI2 hm3 hl3 hb3 c0
      go_wp2_with fail
      refine CT.mono ?_
      rintro e w4 ⟨rfl, hw⟩
      have hw2 := hw.symm
      subst hw2
      clear hw CT
      go_wp2_with fail
      go_ret2
      exact ⟨_, rfl, fun _ => HO3.out, fun e => absurd rfl e, HB3.out⟩
    · have CT := told_no w.heap.size k w3 hk0
      have HK0 : Hid (k ≠ 0) := hk0
      clear CI2 hm3 hl3 hb3 c0 hk0
      go_wp2_with fail
      refine CT.mono ?_
      rintro e w4 ⟨rfl, hw⟩
      have hw2 := hw.symm
      subst hw2
      clear hw CT
      go_wp2_with fail
      go_ret2
      exact RfPost.no HK0.out HB3.out

/- delete -/
def delLs (S : Dq) (who n : Int) (a k : Nat) : List Ox := (List.range k).map fun (j : Nat) => ((who, n + 1 + (j : Int)), 2, (seenP S.book).getD (a + j) ⟨#[]⟩, 0, [])
theorem delLs_next (S : Dq) (who n : Int) (a k : Nat) : delLs S who n a (k + 1) = delLs S who n a k ++ [((who, n + 1 + (k : Int)), 2, (seenP S.book).getD (a + k) ⟨#[]⟩, 0, [])] := by
  unfold delLs; rw [List.range_succ, List.map_append]; rfl
theorem delLs_eq (S : Dq) (who : Int) (a n : Nat) : delLs S who (kn S who) a n = delL S who a ((a + n : Nat) : Int) := by
  unfold delLs delL delO
  rw [show (((a + n : Nat) : Int) - (a : Int)).toNat = n by omega]
  refine List.map_congr_left fun k hk => ?_
  rw [Uq.delP_at (List.mem_range.1 hk)]
def delK (l : List Bm.Leaf) (a b : Int) : Int := if a < 0 ∨ b < a ∨ ((seenP l).length : Int) < b then 1 else 0
theorem delK_eq {S : Dq} {who a b : Int} (h1 : 1 ≤ who) (h8 : who ≤ 8) : delE S who a b = delK S.book a b := by
  unfold delE delK; rw [isWho_iff.2 ⟨h1, h8⟩, if_neg (by simp)]

set_option maxRecDepth 100000 in
set_option maxHeartbeats 4000000 in
theorem delete_no (M : Nat) (a b : Int) (q : Option Addr) (m c : Nat) (B : Nat) (who n : Int) (l : List Bm.Leaf) (X : List Ox) (w : World) (h : MkAt B w M who n (.slice none 0 0) []) (hbk : ∀ W, Below B w W → BookAt W (.slice q m c) l) (hb0 : Bm.bookE l = 0) (hB : B ≤ w.heap.size) (ho : a < 0 ∨ b < a ∨ ((seenP l).length : Int) < b) :
    Calls Tryz.prog 68 #[.pointer (some ⟨M, 0, none⟩), .slice q m c, .int .i64 a, .int .i64 b] w (MkPost B w M who (delK l a b) X) := by
  have HMK : Hid (MkAt B w M who n (.slice none 0 0) []) := h
  have HE : Hid (delK l a b = 1) := by unfold Hid delK; rw [if_pos ho]
  obtain ⟨p9, c9, e9, hin, _⟩ := hbk w (Below.refl _ _)
  injection e9 with e1 e2 e3
  have hl3 := (Bm.bookE_zero.1 hb0).1
  have CT := Mb.text_ref q m c l w e2.symm (by rw [e1]; exact hin) (Lf.book_ok hb0).2.2 (by omega)
  have HSL : Hid ((⟨(Bm.text l).toArray⟩ : ByteArray).size = (seenP l).length) := text_len l
  have hsl3 : (seenP l).length ≤ 300 := by have := seenP_le l; omega
  obtain ⟨tl, htl⟩ : ∃ tl : ByteArray, tl = ⟨(Bm.text l).toArray⟩ := ⟨_, rfl⟩
  rw [← htl] at CT HSL
  have htl3 : tl.size ≤ 300 := by have := HSL.out; omega
  have hor : a < 0 ∨ (¬ a < 0 ∧ b < a) ∨ (¬ a < 0 ∧ ¬ b < a ∧ (tl.size : Int) < b) := by have := HSL.out; omega
  have HBW : Hid (B ≤ w.heap.size) := hB
  clear h hbk hb0 hB ho hin hl3 hsl3 htl e1 e2 e3
  rcases hor with h1 | ⟨h1, h2⟩ | ⟨h1, h2, h3⟩
  · go_enter Tryz.func68, Tryz.ntmps68
    go_wp2_with fail
    go_ret
    exact ⟨by rw [HE.out]; rfl, ⟨_, _, _, HMK.out, fun e => absurd e (by rw [HE.out]; decide)⟩, Below.refl _ _⟩
  · go_enter Tryz.func68, Tryz.ntmps68
    go_wp2_with fail
    go_ret
    exact ⟨by rw [HE.out]; rfl, ⟨_, _, _, HMK.out, fun e => absurd e (by rw [HE.out]; decide)⟩, Below.refl _ _⟩
  · go_enter Tryz.func68, Tryz.ntmps68
    go_wp2_with fail
    refine CT.mono ?_
    rintro e w2 ⟨rfl, hb2⟩
    have HB2 : Hid (Below B w w2) := hb2.mono HBW.out
    have HM2 : Hid (MkAt B w2 M who n (.slice none 0 0) []) := HMK.out.below hb2
    clear hb2 CT
    go_wp2_with fail
    go_ret
    exact ⟨by rw [HE.out]; rfl, ⟨_, _, _, HM2.out, fun e => absurd e (by rw [HE.out]; decide)⟩, HB2.out⟩

end Uv
end Go.Proofs.YtnniggjeadlbgaaGreatDoor
