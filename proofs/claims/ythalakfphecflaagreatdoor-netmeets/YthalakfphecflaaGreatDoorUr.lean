/- Package edit: Fuse. -/
import Derived.Test.YthalakfphecflaaGreatDoorUq
namespace Go.Proofs.YthalakfphecflaaGreatDoor
namespace Ur
set_option linter.unusedVariables false
open Go.ChangeShapes Go.WideShapes Go.ChangeAt Go.RowKit Cm Ka Kb Na Om Oa Oz Oc Og Oi Hm Ia Ib Ic Idc Ie If Ig Ih Ii Ij Ik Il Im Um Ua Ub Uc Ud Ue Uf
open La (bel bel_drew errV_zero errV_ne own_ge own_grow own_below Lies LeafsIn)
open Lj (BookAt BookNew)

theorem mark_place {m : Mk} (h : markE m = 0) : Pm.chk m.1.toList = 0 := by
  unfold markE at h
  by_cases e : Pm.chk m.1.toList = 0
  · exact e
  · rw [if_pos e] at h; exact h
theorem small_marks {l : List Mk} (h : marksE l = 0) : ∀ x ∈ l, x.1.size ≤ maxLen := fun x hx => small_place (mark_place ((marksE_zero.1 h).2.1 x hx))
theorem fusE_at {S : Dq} {who off : Int} (h : atE S who off ≠ 0) : fusE S who off = atE S who off := by unfold fusE; rw [if_pos h]

set_option maxRecDepth 100000 in
set_option maxHeartbeats 2000000 in
theorem fuse_ok (D : Nat) (S : Dq) (F : Nat → Prop) (who off : Int) (w : World) (h : DocAt w D S F) (h0 : atE S who off = 0) :
    Calls Tryz.prog 67 #[.pointer (some ⟨D, 0, none⟩), .int .i64 who, .int .i64 off] w (EdPost w (fusE S who off) (fusL S who off)) := by
  have C := place_at D S F who off w h
  have HD : Hid (DocAt w D S F) := h
  obtain ⟨⟨hw1, hw8⟩, _⟩ := atE_zero.1 h0
  obtain ⟨hchk, _⟩ := at_chk h.inv h0
  rw [h0, show atV S who off = atP S off by unfold atV; rw [if_pos h0], errV_zero] at C
  obtain ⟨p, hp⟩ : ∃ p, p = atP S off := ⟨_, rfl⟩
  rw [← hp] at C hchk
  have HE : Hid (fusE S who off = if dotsAt S.marks p = [] then 5 else 0) := by unfold Hid fusE; rw [if_neg (by simpa using h0), hp]
  have HL : Hid (redot who (kn S who) [((0, 0), 4, p, 0, dotsAt S.marks p)] = fusL S who off) := by unfold Hid fusL redot; rw [hp]; simp
  have HW : Hid (1 ≤ who ∧ who ≤ 8) := ⟨hw1, hw8⟩
  have HSE : Hid (seenE S.marks p = 0) := seenE_zero.2 ⟨h.inv.marks, hchk⟩
  have HSM : Hid (∀ x ∈ S.marks, x.1.size ≤ maxLen) := small_marks h.inv.marks
  have HPM : Hid (p.size ≤ maxLen) := small_place hchk
  clear h h0 hp hw1 hw8 hchk
  go_enter Tryz.func67, Tryz.ntmps67
  go_wp2_with fail
  refine C.mono ?_
  rintro e w2 ⟨rfl, hb2⟩
  have HB2 : Hid (Below w.heap.size w w2) := hb2
  have CM := marks_get D S F w2 (HD.out.below hb2)
  clear hb2 C
  go_wp2_with fail
  refine CM.mono ?_
  rintro e w3 ⟨vm, rfl, hk3, hb3⟩
  obtain ⟨pm, nm, cm, rfl⟩ : ∃ p n c, vm = .slice p n c := by obtain ⟨p, c, e, _⟩ := hk3.1; exact ⟨_, _, _, e⟩
  have HB3 : Hid (Below w.heap.size w w3) := bel HB2.out hb3
  have CS := Ni.seen_loc pm nm cm S.marks p w3 hk3.1 HSM.out HPM.out HSE.out
  clear CM hk3 hb3
  go_wp2_with fail
  refine CS.mono ?_
  rintro e w4 ⟨v4, rfl, ho4, hb4⟩
  have HB4 : Hid (Below w.heap.size w w4) := bel HB3.out hb4
  have HO4 : Hid (w4.ownsRow w.heap.size 74 2 v4 (dotsAt S.marks p).length (flatD (dotsAt S.marks p))) := own_lower ho4 HB3.out.size
  obtain ⟨p4, n4, c4, rfl, HN4⟩ := own_shape ho4
  clear CS ho4 hb4
  by_cases hd : dotsAt S.marks p = []
  · have hn4 : n4 = 0 := by rw [HN4.out, hd]; rfl
    subst hn4
    have HE5 : Hid (fusE S who off = 5) := by unfold Hid; rw [HE.out, if_pos hd]
    clear hd
    go_wp2_with fail
    go_ret2
    exact EdPost.no HE5.out (by decide) HB4.out
  · have HE0 : Hid (fusE S who off = 0) := by unfold Hid; rw [HE.out, if_neg hd]
    have hn4 : 0 < n4 := by rw [HN4.out]; exact List.length_pos_iff.2 hd
    have hn4z : ((n4 : Int) == 0) = false := by simp; omega
    have hn4y : ¬ n4 = 0 := by omega
    have hq := ops_one (B := w.heap.size) w4 ((0, 0), 4, p, 0, dotsAt S.marks p) (.slice p4 n4 c4) HB4.out.size HO4.out
    have HB5 : Hid (Below w.heap.size w (w4.alloc (.cells #[.int .i64 0, .int .i64 0, .int .i64 4, .string p, .int .i64 0, .slice p4 n4 c4] 99))) := HB4.out.alloc HB4.out.size _
    have CD := dots_any D S F who w.heap.size [((0, 0), 4, p, 0, dotsAt S.marks p)] (.slice (some ⟨w4.heap.size, 0, none⟩) 1 1) _ (HD.out.below HB5.out) HW.out.1 HW.out.2 hq HB5.out.size (by simp)
    rw [HL.out] at CD
    clear hd hq
    go_wp2_with fail
    refine CD.mono ?_
    rintro e w6 ⟨rfl, ho6, hb6⟩
    have HO6 : Hid (OpsNew w.heap.size w6 (.slice (some ⟨w4.heap.size, 0, none⟩) 1 1) (fusL S who off)) := ho6
    have HB6 : Hid (Below w.heap.size w w6) := HB5.out.trans hb6
    clear CD ho6 hb6
    go_wp2_with fail
    go_ret2
    exact ⟨_, by rw [HE0.out]; rfl, fun _ => HO6.out, fun e => absurd HE0.out e, HB6.out⟩
theorem fuse_any (D : Nat) (S : Dq) (F : Nat → Prop) (who off : Int) (w : World) (h : DocAt w D S F) :
    Calls Tryz.prog 67 #[.pointer (some ⟨D, 0, none⟩), .int .i64 who, .int .i64 off] w (EdPost w (fusE S who off) (fusL S who off)) := by
  rcases atE_cases S who off with h0 | h0
  · exact fuse_ok D S F who off w h h0
  · have C := place_at D S F who off w h
    rw [h0, show atV S who off = ⟨#[]⟩ by unfold atV; rw [h0]; rfl, errV_ne (by decide)] at C
    have HE : Hid (fusE S who off = 1) := by unfold Hid; rw [fusE_at (by rw [h0]; decide)]; exact h0
    clear h h0
    go_enter Tryz.func67, Tryz.ntmps67
    go_wp2_with fail
    refine C.mono ?_
    rintro e w2 ⟨rfl, hb2⟩
    have HB2 : Hid (Below w.heap.size w w2) := hb2
    clear hb2 C
    go_wp2_with fail
    go_ret2
    exact EdPost.no HE.out (by decide) HB2.out

end Ur
end Go.Proofs.YthalakfphecflaaGreatDoor
