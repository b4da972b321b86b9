/- The reference's Split. -/
import Derived.Test.YtnniggjeadlbgaaGreatDoorUx
namespace Go.Proofs.YtnniggjeadlbgaaGreatDoor
namespace Uy
set_option linter.unusedVariables false
set_option linter.unusedSimpArgs false
open Go.ChangeShapes Go.WideShapes Go.ChangeAt Go.RowKit Cm Ka Kb Na Om Oa Oz Oc Og Oi Hm Ia Ib Ic Idc Ie If Ig Ih Ii Ij Ik Il Im Um Ua Ub Uc Ud Ue Uf Xa Us Ut Uu Uv
open La (bel bel_drew errV_zero errV_ne own_ge own_grow own_below Lies LeafsIn)
open Lj (BookAt BookNew)
open Xg (Parts)

theorem nth_none : ∀ (l : List Bm.Leaf) (i : Nat) (r : Int), ((seenP l).length : Int) ≤ r → Bm.nth l i r = -1
  | [], i, r, h => rfl
  | x :: l, i, r, h => by
    rw [seenP_cons] at h
    unfold Bm.nth
    cases hx : Bm.isS x with
    | true =>
      rw [hx, if_pos rfl, List.length_cons] at h
      rw [if_pos rfl, if_neg (by omega)]
      exact nth_none l (i + 1) (r - 1) (by omega)
    | false =>
      rw [hx] at h
      rw [if_neg (by simp)]
      exact nth_none l (i + 1) r (by simpa using h)
theorem at_wrong {S : Dq} {who off : Int} (h : atE S who off ≠ 0) : atE S who off = 1 := by
  rcases atE_cases S who off with e | e
  · exact absurd e h
  · exact e

set_option maxRecDepth 100000 in
set_option maxHeartbeats 2000000 in
theorem split_no (B E : Nat) (S : Dq) (F : Nat → Prop) (who off : Int) (f : Bool) (L : List Ox) (w : World) (h : RefAt B w E S F) (h0 : atE S who off ≠ 0) :
    Calls Tryz.prog 29 #[.pointer (some ⟨E, 0, none⟩), .int .i64 who, .int .i64 off, .bool f] w (RfPost w 1 L) := by
  obtain ⟨pb, nb, cb, pm, nm, cm, gk, po, no, co, hp⟩ := Xg.RefAt.parts h
  have HP : Hid (Parts w E S pb nb cb pm nm cm gk po no co) := hp
  have hnb : S.book.length = nb := by obtain ⟨p9, c9, e9, _⟩ := hp.book w (Below.refl _ _); injection e9 with e1 e2 e3; exact e2.symm
  have h3 := few_book h.inv
  have CN : Hid (∀ W, Below w.heap.size w W → 0 ≤ off → Calls Tryz.prog 70 #[.slice pb nb cb, .int .i64 off] W fun e w' => e = .returned (.int .i64 (Bm.nth S.book 0 off)) ∧ Below W.heap.size W w') := fun W hb hf => Mb.nth_ref pb nb cb S.book off W hnb (by obtain ⟨p9, c9, e9, hin, _⟩ := hp.book W hb; injection e9 with e1 e2 e3; rw [e1]; exact hin) (by omega) hf
  cases hw : Pm.isWho who with
  | false =>
    have C := maker_no E who w (isWho_no.1 hw)
    by_cases ho : off < 0
    · clear h h0 hp hnb h3 hw CN
      go_enter Tryz.func29, Tryz.ntmps29
      go_wp2_with fail
      refine C.mono ?_
      rintro e w2 ⟨rfl, hw⟩
      have hw2 := hw.symm
      subst hw2
      clear hw C
      go_wp2_with fail
      go_ret2
      exact RfPost.no (by decide) (Below.refl _ _)
    · have ho2 : 0 ≤ off := by omega
      have CN2 := CN.out w (Below.refl _ _) ho2
      obtain ⟨z, hz⟩ : ∃ z, z = Bm.nth S.book 0 off := ⟨_, rfl⟩
      rw [← hz] at CN2
      have c0 := hp.c0 w (Below.refl _ _)
      clear h h0 hp hnb h3 hw CN hz
      go_enter Tryz.func29, Tryz.ntmps29
      go_wp2_with fail
      refine C.mono ?_
      rintro e w2 ⟨rfl, hw⟩
      have hw2 := hw.symm
      subst hw2
      clear hw C
      go_wp2_with fail
      refine CN2.mono ?_
      rintro e w3 ⟨rfl, hb3⟩
      have HB3 : Hid (Below w.heap.size w w3) := hb3
      clear CN2 hb3
      go_wp2_with fail
      go_ret2
      exact RfPost.no (by decide) HB3.out
  | true =>
    obtain ⟨h1, h8⟩ := isWho_iff.1 hw
    have C := maker_ok B E S F who w h h1 h8
    by_cases ho : off < 0
    · clear h h0 hp hnb h3 hw CN h1 h8
      go_enter Tryz.func29, Tryz.ntmps29
      go_wp2_with fail
      refine C.mono ?_
      rintro e w2 ⟨rfl, _, hb2⟩
      have HB2 : Hid (Below w.heap.size w w2) := hb2
      clear hb2 C
      go_wp2_with fail
      go_ret2
      exact RfPost.no (by decide) HB2.out
    · have ho2 : 0 ≤ off := by omega
      have hge : ((seenP S.book).length : Int) ≤ off := by
        by_cases hlt : off < (seenP S.book).length
        · exact absurd (atE_zero.2 ⟨⟨h1, h8⟩, ho2, hlt⟩) h0
        · omega
      have HZ : Hid (Bm.nth S.book 0 off = -1) := nth_none S.book 0 off hge
      have HO : Hid (0 ≤ off) := ho2
      clear h h0 hp hnb h3 hw h1 h8 hge
      go_enter Tryz.func29, Tryz.ntmps29
      go_wp2_with fail
      refine C.mono ?_
      rintro e w2 ⟨rfl, _, hb2⟩
      have HB2 : Hid (Below w.heap.size w w2) := hb2
      have CN2 := CN.out w2 hb2 HO.out
      rw [HZ.out] at CN2
      have c0 := HP.out.c0 w2 hb2
      clear hb2 C CN
      go_wp2_with fail
      refine CN2.mono ?_
      rintro e w3 ⟨rfl, hb3⟩
      have HB3 : Hid (Below w.heap.size w w3) := bel HB2.out hb3
      clear CN2 hb3
      go_wp2_with fail
      go_ret2
      exact RfPost.no (by decide) HB3.out

set_option maxRecDepth 100000 in
set_option maxHeartbeats 4000000 in
theorem split_cut (B E : Nat) (S : Dq) (F : Nat → Prop) (who : Int) (o : Nat) (w : World) (h : RefAt B w E S F) (h0 : atE S who o = 0) :
    Calls Tryz.prog 29 #[.pointer (some ⟨E, 0, none⟩), .int .i64 who, .int .i64 (o : Int), .bool false] w (RfPost w 0 (splL S who o)) := by
  obtain ⟨pb, nb, cb, pm, nm, cm, gk, po, no, co, hp⟩ := Xg.RefAt.parts h
  have HP : Hid (Parts w E S pb nb cb pm nm cm gk po no co) := hp
  obtain ⟨⟨h1, h8⟩, _, ho⟩ := atE_zero.1 h0
  obtain ⟨i, e1, e2, e3, _⟩ := nth_pos (l := S.book) (r := o) (by omega)
  obtain ⟨p9, c9, e9, hin, _⟩ := hp.book w (Below.refl _ _)
  obtain ⟨b0, o0, hq, _⟩ := hin.some (by intro e; rw [e] at e2; simp at e2)
  injection e9 with e91 e92 e93
  rw [hq] at e91
  subst e91
  have h3 := few_book h.inv
  have CN : Hid (∀ W, Below w.heap.size w W → Calls Tryz.prog 70 #[.slice (some ⟨b0, o0, none⟩) nb cb, .int .i64 (o : Int)] W fun e w' => e = .returned (.int .i64 (i : Int)) ∧ Below W.heap.size W w') := fun W hb => by
    rw [← e1]
    exact Mb.nth_ref (some ⟨b0, o0, none⟩) nb cb S.book o W e92.symm (by obtain ⟨p9, c9, e9, hin, _⟩ := hp.book W hb; injection e9 with e1 e2 e3; rw [e1]; exact hin) (by omega) (by omega)
  have HPL : Hid (∀ W, Below w.heap.size w W → W.cell? ⟨b0, o0 + i * 3, none⟩ = some (.string (atP S o))) := fun W hb => by
    obtain ⟨p9, c9, e9, hin, _⟩ := hp.book W hb
    injection e9 with q1 q2 q3
    obtain ⟨b1, o1, hq1, hc⟩ := hin.some (by intro e; rw [e] at e2; simp at e2)
    rw [hq1] at q1
    injection q1 with q1
    injection q1 with q11 q12
    have := (hc i e2).1
    rw [e3] at this
    rw [q11, q12]
    unfold atP; rw [Int.toNat_natCast]; exact this
  have C := maker_ok B E S F who w h h1 h8
  obtain ⟨k0, k1⟩ := kn_le h.inv h1 h8
  have hf := h.inv.few
  have hinb : (i : Int) < nb := by rw [e92]; omega
  have hi3 : (i : Int) ≤ 300 := by omega
  have HKN : Hid (0 ≤ kn S who ∧ kn S who ≤ 400) := ⟨k0, by omega⟩
  have HL : Hid (splL S who o = [((who, kn S who + 1), 3, atP S o, 0, [])]) := rfl
  have hoz : ¬ (o : Int) < 0 := by omega
  obtain ⟨p, hpp⟩ : ∃ p, p = atP S o := ⟨_, rfl⟩
  rw [← hpp] at HPL HL
  obtain ⟨kk, hkk⟩ : ∃ kk, kk = kn S who := ⟨_, rfl⟩
  rw [← hkk] at HKN HL C
  clear h h0 hp h1 h8 ho e1 e2 e3 hin hq e92 e93 h3 k0 k1 hf hpp hkk
  go_enter Tryz.func29, Tryz.ntmps29
  go_wp2_with fail
  refine C.mono ?_
  rintro e w2 ⟨rfl, hmk, hb2⟩
  have HB2 : Hid (Below w.heap.size w w2) := hb2
  have HM2 : Hid (MkAt w.heap.size w2 w.heap.size who kk (.slice none 0 0) []) := hmk
  have CN2 := CN.out w2 hb2
  have c0 := HP.out.c0 w2 hb2
  clear hb2 C CN hmk
  go_wp2_with fail
  refine CN2.mono ?_
  rintro e w3 ⟨rfl, hb3⟩
  have HB3 : Hid (Below w.heap.size w w3) := bel HB2.out hb3
  have HM3 : Hid (MkAt w.heap.size w3 w.heap.size who kk (.slice none 0 0) []) := HM2.out.below hb3
  have d0 := HP.out.c0 w3 HB3.out
  have dp := HPL.out w3 HB3.out
  have CA := add_ref w.heap.size w.heap.size who kk (.slice none 0 0) [] 3 p 0 (.slice none 0 0) [] w3 HM3.out (World.ownsRow_nil _ _ _ _) HB3.out.size HKN.out.1 (by have := HKN.out.2; omega) (by simp)
  clear CN2 hb3 c0
  go_wp2_with fail
  refine CA.mono ?_
  rintro e w4 ⟨rfl, v4, hm4, hb4⟩
  have HB4 : Hid (Below w.heap.size w w4) := HB3.out.trans hb4
  have HO4 : Hid (OpsAt w4 v4 (splL S who o)) := by unfold Hid; rw [HL.out]; exact hm4.ops
  have c2 := blk_cell hm4.blk (i := 2) (u := v4) rfl
  obtain ⟨p4, n4, c4, rfl, _⟩ := own_shape hm4.row
  clear CA hm4 hb4 d0 dp
  go_wp2_with fail
  go_ret2
  exact ⟨_, rfl, fun _ => HO4.out, fun e => absurd rfl e, HB4.out⟩

end Uy
end Go.Proofs.YtnniggjeadlbgaaGreatDoor
