/- The reference's Maker.delete where it is right, and Delete. -/
import Derived.Test.YtnniggjeadlbgaaGreatDoorUv
namespace Go.Proofs.YtnniggjeadlbgaaGreatDoor
namespace Uw
set_option linter.unusedVariables false
set_option linter.unusedSimpArgs false
open Go.ChangeShapes Go.WideShapes Go.ChangeAt Go.RowKit Cm Ka Kb Na Om Oa Oz Oc Og Oi Hm Ia Ib Ic Idc Ie If Ig Ih Ii Ij Ik Il Im Um Ua Ub Uc Ud Ue Uf Xa Us Ut Uu Uv
open La (bel bel_drew errV_zero errV_ne own_ge own_grow own_below Lies LeafsIn)
open Lj (BookAt BookNew)
open Xg (Parts)

set_option maxRecDepth 100000 in
set_option maxHeartbeats 4000000 in
theorem delete_zero (M : Nat) (a : Nat) (q : Option Addr) (m c : Nat) (B : Nat) (who n : Int) (l : List Bm.Leaf) (w : World) (h : MkAt B w M who n (.slice none 0 0) []) (hbk : ∀ W, Below B w W → BookAt W (.slice q m c) l) (hb0 : Bm.bookE l = 0) (hB : B ≤ w.heap.size) (ho : a ≤ (seenP l).length) :
    Calls Tryz.prog 68 #[.pointer (some ⟨M, 0, none⟩), .slice q m c, .int .i64 (a : Int), .int .i64 (a : Int)] w (MkPost B w M who 0 []) := by
  have HMK : Hid (MkAt B w M who n (.slice none 0 0) []) := h
  obtain ⟨p9, c9, e9, hin, _⟩ := hbk w (Below.refl _ _)
  injection e9 with e1 e2 e3
  have hl3 := (Bm.bookE_zero.1 hb0).1
  have CT := Mb.text_ref q m c l w e2.symm (by rw [e1]; exact hin) (Lf.book_ok hb0).2.2 (by omega)
  have HSL : Hid ((⟨(Bm.text l).toArray⟩ : ByteArray).size = (seenP l).length) := text_len l
  have hsl3 : (seenP l).length ≤ 300 := by have := seenP_le l; omega
  obtain ⟨tl, htl⟩ : ∃ tl : ByteArray, tl = ⟨(Bm.text l).toArray⟩ := ⟨_, rfl⟩
  rw [← htl] at CT HSL
  have htl3 : tl.size ≤ 300 := by have := HSL.out; omega
  have q1 : ¬ (a : Int) < 0 := by omega
  have q2 : ¬ (a : Int) < a := by omega
  have q3 : ¬ (tl.size : Int) < a := by have := HSL.out; omega
  have HBW : Hid (B ≤ w.heap.size) := hB
  clear h hbk hb0 hB ho hin hl3 hsl3 htl e1 e2 e3
  go_enter Tryz.func68, Tryz.ntmps68
  go_wp2_with fail
  refine CT.mono ?_
  rintro e w2 ⟨rfl, hb2⟩
  have HB2 : Hid (Below B w w2) := hb2.mono HBW.out
  have HM2 : Hid (MkAt B w2 M who n (.slice none 0 0) []) := HMK.out.below hb2
  clear hb2 CT
  go_wp2_with fail
  go_loopw [9] (fun vi wr => vi = .int .i64 a ∧ Hid (wr = w2)) (fun _ _ => 0)
  case atStart => exact ⟨rfl, rfl⟩
  case round =>
    obtain ⟨rfl, HW⟩ := hrel
    go_wp2_with fail
    go_ret
    rw [HW.out]
    exact ⟨rfl, ⟨_, _, _, HM2.out, fun _ => rfl⟩, HB2.out⟩

set_option maxRecDepth 100000 in
set_option maxHeartbeats 4000000 in
theorem delete_rows (S : Dq) (M : Nat) (a N : Nat) (b0 oo0 : Nat) (m c : Nat) (B : Nat) (who n : Int) (w : World) (h : MkAt B w M who n (.slice none 0 0) []) (hbk : ∀ W, Below B w W → BookAt W (.slice (some ⟨b0, oo0, none⟩) m c) S.book) (hb0 : Bm.bookE S.book = 0) (hB : B ≤ w.heap.size) (ho : a + N ≤ (seenP S.book).length) (hn0 : 0 ≤ n) (hn1 : n ≤ 400) :
    Calls Tryz.prog 68 #[.pointer (some ⟨M, 0, none⟩), .slice (some ⟨b0, oo0, none⟩) m c, .int .i64 (a : Int), .int .i64 ((a : Int) + N)] w (MkPost B w M who 0 (delLs S who n a N)) := by
  have HMK : Hid (MkAt B w M who n (.slice none 0 0) []) := h
  have HBK : Hid (∀ W, Below B w W → LeafsIn W (some ⟨b0, oo0, none⟩) S.book) := fun W hb => by
    obtain ⟨p9, c9, e9, hin, _⟩ := hbk W hb
    injection e9 with e1 e2 e3
    rw [e1]; exact hin
  have hml : m = S.book.length := by
    obtain ⟨p9, c9, e9, hin, _⟩ := hbk w (Below.refl _ _)
    injection e9
  have HML : Hid (S.book.length = m) := hml.symm
  have hl3 := (Bm.bookE_zero.1 hb0).1
  have hm3 : m ≤ 300 := by omega
  have CT := Mb.text_ref (some ⟨b0, oo0, none⟩) m c S.book w HML.out (HBK.out w (Below.refl _ _)) (Lf.book_ok hb0).2.2 (by omega)
  have CN : Hid (∀ W f, Below B w W → 0 ≤ f → Calls Tryz.prog 70 #[.slice (some ⟨b0, oo0, none⟩) m c, .int .i64 f] W fun e w' => e = .returned (.int .i64 (Bm.nth S.book 0 f)) ∧ Below W.heap.size W w') := fun W f hb hf => Mb.nth_ref (some ⟨b0, oo0, none⟩) m c S.book f W HML.out (HBK.out W hb) (by omega) hf
  have HPLACE : Hid (∀ W i, Below B w W → i < m → W.cell? ⟨b0, oo0 + i * 3, none⟩ = some (.string (S.book.getD i Bm.none0).1)) := fun W i hb hi => by
    obtain ⟨b, oo, e, hc⟩ := (HBK.out W hb).some (by intro e; have := HML.out; rw [e] at this; simp at this; omega)
    injection e with e
    injection e with e1 e2
    rw [e1, e2]
    exact (hc i (by rw [HML.out]; exact hi)).1
  have HSL : Hid ((⟨(Bm.text S.book).toArray⟩ : ByteArray).size = (seenP S.book).length) := text_len S.book
  have hsl3 : (seenP S.book).length ≤ 300 := by have := seenP_le S.book; omega
  obtain ⟨tl, htl⟩ : ∃ tl : ByteArray, tl = ⟨(Bm.text S.book).toArray⟩ := ⟨_, rfl⟩
  rw [← htl] at CT HSL
  have htl3 : tl.size ≤ 300 := by have := HSL.out; omega
  have q1 : ¬ (a : Int) < 0 := by omega
  have q2 : ¬ (a : Int) + N < a := by omega
  have q3 : ¬ (tl.size : Int) < (a : Int) + N := by have := HSL.out; omega
  have haN : a + N ≤ 300 := by omega
  have HO : Hid (a + N ≤ (seenP S.book).length) := ho
  have HBW : Hid (B ≤ w.heap.size) := hB
  have HNB : Hid (0 ≤ n ∧ n ≤ 400) := ⟨hn0, hn1⟩
  clear h hbk hb0 hB ho hl3 hsl3 htl hml hn0 hn1
  go_enter Tryz.func68, Tryz.ntmps68
  go_wp2_with fail
  refine CT.mono ?_
  rintro e w2 ⟨rfl, hb2⟩
  have HB2 : Hid (Below B w w2) := hb2.mono HBW.out
  have HM2 : Hid (MkAt B w2 M who n (.slice none 0 0) []) := HMK.out.below hb2
  clear hb2 CT HMK
  go_wp2_with fail
  go_loopw [9] (fun vi wr => ∃ (j : Nat) (v : Value) (L : List (Ox × Value)), j ≤ N ∧ vi = .int .i64 ((a : Int) + j) ∧ Hid (MkAt B wr M who (n + j) v L) ∧ Hid (L.map (·.1) = delLs S who n a j) ∧ Hid (Below B w wr)) (fun vi _ => a + N - (intOf vi).toNat)
  case atStart => exact ⟨0, .slice none 0 0, [], by omega, by simp, by have h9 := HM2.out; rw [show n + ((0 : Nat) : Int) = n by omega]; exact h9, rfl, HB2⟩
  case round =>
    clear HM2 HB2
    obtain ⟨j, v, L, hj, rfl, HMj, HLj, HBj⟩ := hrel
    by_cases hjt : j < N
    · have hjz : (a : Int) + j < (a : Int) + N := by omega
      obtain ⟨i, e1, e2, e3, _⟩ := nth_pos (l := S.book) (r := a + j) (by have := HO.out; omega)
      rw [show ((a + j : Nat) : Int) = (a : Int) + j by omega] at e1
      have CN2 := CN.out wr ((a : Int) + j) HBj.out (by omega)
      rw [e1] at CN2
      rw [HML.out] at e2
      have hi3 : (i : Int) ≤ 300 := by omega
      have himz : (i : Int) < m := by omega
      obtain ⟨p, hp⟩ : ∃ p, p = (seenP S.book).getD (a + j) ⟨#[]⟩ := ⟨_, rfl⟩
      rw [← hp] at e3
      have HIP : Hid ((S.book.getD i Bm.none0).1 = p) := e3
      have hLl : L.length = j := by have h9 := congrArg List.length HLj.out; rw [List.length_map] at h9; rw [h9]; unfold delLs; simp
      have HLL : Hid (L.length ≤ 1000) := by unfold Hid; omega
      have HIO : Hid (delLs S who n a (j + 1) = delLs S who n a j ++ [((who, n + j + 1), 2, p, 0, [])]) := by
        unfold Hid; rw [delLs_next, hp, show n + 1 + (j : Int) = n + j + 1 by omega]
      clear e1 e3 hp hLl
      go_wp2_with fail
      refine CN2.mono ?_
      rintro e w3 ⟨rfl, hb3⟩
      have HB3 : Hid (Below B w w3) := HBj.out.trans (hb3.mono (Nat.le_trans HBW.out HBj.out.size))
      have hcell := HPLACE.out w3 i HB3.out e2
      rw [HIP.out] at hcell
      have CA := add_ref B M who (n + j) v L 2 p 0 (.slice none 0 0) [] w3 (HMj.out.below hb3) (World.ownsRow_nil _ _ _ _) (Nat.le_trans HBW.out HB3.out.size) (by have := HNB.out.1; omega) (by have := HNB.out.2; omega) HLL.out
      clear CN2 hb3
      go_wp2_with fail
      refine CA.mono ?_
      rintro e w5 ⟨rfl, v5, hm5, hb5⟩
      have HB5 : Hid (Below B w w5) := HB3.out.trans hb5
      have HM5 : Hid (MkAt B w5 M who (n + ((j + 1 : Nat) : Int)) v5 (L ++ [(((who, n + j + 1), 2, p, 0, []), .slice none 0 0)])) := by
        unfold Hid; rw [show n + ((j + 1 : Nat) : Int) = n + j + 1 by omega]; exact hm5
      have HL5 : Hid ((L ++ [(((who, n + j + 1), 2, p, 0, []), (.slice none 0 0 : Value))] : List (Ox × Value)).map (fun y : Ox × Value => y.1) = delLs S who n a (j + 1)) := by
        unfold Hid; rw [List.map_append, HLj.out, HIO.out]; rfl
      have hwr : IntKind.i64.wrap ((a : Int) + j + 1) = (a : Int) + j + 1 := wrap_in (by omega) (by omega)
      clear CA hm5 hb5 hcell
      go_wp2_with fail
      go_roundw
      case rel => exact ⟨j + 1, v5, _, by omega, by first | go_num | (congr 1; omega), HM5, HL5, HB5⟩
      case measure => simp [intOf]; omega
    · have hje : j = N := by omega
      have hjz : ¬ (a : Int) + j < (a : Int) + N := by omega
      have HLE : Hid (L.map (·.1) = delLs S who n a N) := by unfold Hid; rw [← hje]; exact HLj.out
      clear hje
      go_wp2_with fail
      go_ret
      exact ⟨rfl, ⟨_, _, _, HMj.out, fun _ => HLE.out⟩, HBj.out⟩

theorem delete_all (S : Dq) (M : Nat) (a b : Int) (v : Value) (B : Nat) (who n : Int) (w : World) (h : MkAt B w M who n (.slice none 0 0) []) (hbk : ∀ W, Below B w W → BookAt W v S.book) (hb0 : Bm.bookE S.book = 0) (hB : B ≤ w.heap.size) (hn : n = kn S who) (hn0 : 0 ≤ n) (hn1 : n ≤ 400) :
    Calls Tryz.prog 68 #[.pointer (some ⟨M, 0, none⟩), v, .int .i64 a, .int .i64 b] w (MkPost B w M who (delK S.book a b) (delL S who a b)) := by
  obtain ⟨q, c, e, hin, _⟩ := hbk w (Below.refl _ _)
  subst e
  by_cases ho : a < 0 ∨ b < a ∨ ((seenP S.book).length : Int) < b
  · exact delete_no M a b q S.book.length c B who n S.book _ w h hbk hb0 hB ho
  · have e0 : delK S.book a b = 0 := by unfold delK; rw [if_neg ho]
    obtain ⟨x, hx⟩ : ∃ x : Nat, a = x := ⟨a.toNat, by omega⟩
    obtain ⟨N, hN⟩ : ∃ N : Nat, b = ((x + N : Nat) : Int) := ⟨(b - a).toNat, by omega⟩
    subst hx hN
    rw [e0, ← delLs_eq, ← hn]
    by_cases hN0 : N = 0
    · subst hN0
      have := delete_zero M x q S.book.length c B who n S.book w h hbk hb0 hB (by omega)
      rw [show ((x + 0 : Nat) : Int) = (x : Int) by omega]
      exact this
    · obtain ⟨b0, o0, rfl, _⟩ := hin.some (by intro e; have h9 : (seenP S.book).length = 0 := (by rw [e]; rfl); omega)
      have := delete_rows S M x N b0 o0 S.book.length c B who n w h hbk hb0 hB (by omega) hn0 hn1
      rw [show ((x + N : Nat) : Int) = (x : Int) + N by omega]
      exact this

set_option maxRecDepth 100000 in
set_option maxHeartbeats 2000000 in
theorem delete_ref (B E : Nat) (S : Dq) (F : Nat → Prop) (who a b : Int) (w : World) (h : RefAt B w E S F) :
    Calls Tryz.prog 27 #[.pointer (some ⟨E, 0, none⟩), .int .i64 who, .int .i64 a, .int .i64 b] w (RfPost w (delE S who a b) (delL S who a b)) := by
  cases hw : Pm.isWho who with
  | false =>
    have HE : Hid (delE S who a b = 1) := by unfold Hid delE; rw [if_pos hw]
    have C := maker_no E who w (isWho_no.1 hw)
    clear h hw
    go_enter Tryz.func27, Tryz.ntmps27
    go_wp2_with fail
    refine C.mono ?_
    rintro e w2 ⟨rfl, hw⟩
    have hw2 := hw.symm
    subst hw2
    clear hw C
    go_wp2_with fail
    go_ret2
    rw [HE.out]
    exact RfPost.no (by decide) (Below.refl _ _)
  | true =>
    obtain ⟨h1, h8⟩ := isWho_iff.1 hw
    obtain ⟨pb, nb, cb, pm, nm, cm, gk, po, no, co, hp⟩ := Xg.RefAt.parts h
    have C := maker_ok B E S F who w h h1 h8
    obtain ⟨k0, k1⟩ := kn_le h.inv h1 h8
    have hf := h.inv.few
    have HP : Hid (Parts w E S pb nb cb pm nm cm gk po no co) := hp
    have CI : Hid (∀ W, Below w.heap.size w W → MkAt w.heap.size W w.heap.size who (kn S who) (.slice none 0 0) [] → Calls Tryz.prog 68 #[.pointer (some ⟨w.heap.size, 0, none⟩), .slice pb nb cb, .int .i64 a, .int .i64 b] W (MkPost w.heap.size W w.heap.size who (delE S who a b) (delL S who a b))) := fun W hb hmk => by
      rw [delK_eq h1 h8]
      exact delete_all S w.heap.size a b (.slice pb nb cb) w.heap.size who (kn S who) W hmk (fun W2 hb2 => hp.book W2 (hb.trans hb2)) h.inv.book hb.size rfl k0 (by omega)
    obtain ⟨k, hk⟩ : ∃ k, k = delE S who a b := ⟨_, rfl⟩
    rw [← hk] at CI ⊢
    clear h hw hp h1 h8 k0 k1 hf hk
    go_enter Tryz.func27, Tryz.ntmps27
    go_wp2_with fail
    refine C.mono ?_
    rintro e w2 ⟨rfl, hmk2, hb2⟩
    have HB2 : Hid (Below w.heap.size w w2) := hb2
    have CI2 := CI.out w2 hb2 hmk2
    have c0 := HP.out.c0 w2 hb2
    clear C hmk2 hb2 CI
    go_wp2_with fail
    refine CI2.mono ?_
    rintro e w3 ⟨rfl, ⟨n3, v3, L3, hm3, hl3⟩, hb3⟩
    have HB3 : Hid (Below w.heap.size w w3) := HB2.out.trans hb3
    by_cases hk0 : k = 0
    · subst hk0
      have CT := told_ok w.heap.size w.heap.size who n3 v3 L3 w3 hm3
      have HO3 : Hid (OpsAt w3 v3 (delL S who a b)) := by unfold Hid; rw [← hl3 rfl]; exact hm3.ops
      obtain ⟨p3, m3, c3, rfl, _⟩ := own_shape hm3.row
      clear CI2 hm3 hl3 hb3 c0
      go_wp2_with fail
      refine CT.mono ?_
      rintro e w4 ⟨rfl, hw⟩
      have hw2 := hw.symm
      subst hw2
      clear hw CT
      go_wp2_with fail
      go_ret2
      exact ⟨_, rfl, fun _ => HO3.out, fun e => absurd rfl e, HB3.out⟩
    · have CT := told_no w.heap.size k w3 hk0
      have HK0 : Hid (k ≠ 0) := hk0
      clear CI2 hm3 hl3 hb3 c0 hk0
      go_wp2_with fail
      refine CT.mono ?_
      rintro e w4 ⟨rfl, hw⟩
      have hw2 := hw.symm
      subst hw2
      clear hw CT
      go_wp2_with fail
      go_ret2
      exact RfPost.no HK0.out HB3.out

end Uw
end Go.Proofs.YtnniggjeadlbgaaGreatDoor
