/- Package edit: placeAt, Split, Fuse. -/
import Derived.Test.YthalakfphecflaaGreatDoorUe
namespace Go.Proofs.YthalakfphecflaaGreatDoor
namespace Uf
set_option linter.unusedVariables false
open Go.ChangeShapes Go.WideShapes Go.ChangeAt Go.RowKit Cm Ka Kb Na Om Oa Oz Oc Og Oi Hm Ia Ib Ic Idc Ie If Ig Ih Ii Ij Ik Il Im Um Ua Ub Uc Ud Ue
open La (bel bel_drew errV_zero errV_ne own_ge own_grow own_below Lies LeafsIn)
open Lj (BookAt BookNew)

def atV (S : Dq) (who off : Int) : ByteArray := if atE S who off = 0 then atP S off else ⟨#[]⟩
theorem at_who (D : Nat) (S : Dq) (F : Nat → Prop) (who off : Int) (w : World) (hw : Pm.isWho who = false) :
    Calls Tryz.prog 95 #[.pointer (some ⟨D, 0, none⟩), .int .i64 who, .int .i64 off] w fun e w' => e = .returned (.tuple #[.string ⟨#[]⟩, .iface 61 (.int .i64 1)]) ∧ Below w.heap.size w w' := by
  have C := fun w => who_no who w (isWho_no.1 hw)
  clear hw
  go_enter Tryz.func95, Tryz.ntmps95
  go_wp2_with fail
  refine (C _).mono ?_
  rintro e w2 ⟨rfl, hw⟩
  have hw2 := hw.symm
  subst hw2
  clear hw C
  go_wp2_with fail
  go_ret2
  exact ⟨rfl, Below.refl _ _⟩
set_option maxHeartbeats 1000000 in
theorem at_off (D : Nat) (S : Dq) (F : Nat → Prop) (who off : Int) (w : World) (h : DocAt w D S F) (hw1 : 1 ≤ who) (hw8 : who ≤ 8) (ho : off < 0 ∨ (¬ off < 0 ∧ ((seenP S.book).length : Int) ≤ off)) :
    Calls Tryz.prog 95 #[.pointer (some ⟨D, 0, none⟩), .int .i64 who, .int .i64 off] w fun e w' => e = .returned (.tuple #[.string ⟨#[]⟩, .iface 61 (.int .i64 1)]) ∧ Below w.heap.size w w' := by
  have C := fun w => who_ok who w hw1 hw8
  have CB := book_get D S F w h
  have h3 := few_book h.inv
  have H3 : Hid (S.book.length ≤ 300) := h3
  obtain ⟨m, hm⟩ : ∃ m, m = (seenP S.book).length := ⟨_, rfl⟩
  rw [← hm] at ho
  have HM : Hid (m = (seenP S.book).length) := hm
  clear h hw1 hw8 hm h3
  rcases ho with h1 | ⟨h1, h2⟩
  all_goals
    go_enter Tryz.func95, Tryz.ntmps95
    go_wp2_with fail
    refine (C _).mono ?_
    rintro e w2 ⟨rfl, hw⟩
    have hw2 := hw.symm
    subst hw2
    clear hw C
    go_wp2_with fail
    refine CB.mono ?_
    rintro e w3 ⟨vb, rfl, hk3, hb3⟩
    have CP := places_any vb S.book w3 hk3.1 (by have := H3.out; omega)
    have HB3 : Hid (Below w.heap.size w w3) := hb3
    clear CB hk3 hb3
    go_wp2_with fail
    refine CP.mono ?_
    rintro e w4 ⟨v1, rfl, ht1, hb4⟩
    obtain ⟨p1, c1, rfl, hmx⟩ := ht1.shape
    rw [← HM.out] at hmx ⊢
    have HB4 : Hid (Below w.heap.size w w4) := bel HB3.out hb4
    clear ht1 hb4 CP
    go_wp2_with fail
    go_ret2
    exact ⟨rfl, HB4.out⟩
set_option maxHeartbeats 1000000 in
theorem at_ok (D : Nat) (S : Dq) (F : Nat → Prop) (who : Int) (off : Nat) (w : World) (h : DocAt w D S F) (hw1 : 1 ≤ who) (hw8 : who ≤ 8) (ho : off < (seenP S.book).length) :
    Calls Tryz.prog 95 #[.pointer (some ⟨D, 0, none⟩), .int .i64 who, .int .i64 off] w fun e w' => e = .returned (.tuple #[.string (atP S off), .nilIface]) ∧ Below w.heap.size w w' := by
  have C := fun w => who_ok who w hw1 hw8
  have CB := book_get D S F w h
  have h3 := few_book h.inv
  have H3 : Hid (S.book.length ≤ 300) := h3
  obtain ⟨m, hm⟩ : ∃ m, m = (seenP S.book).length := ⟨_, rfl⟩
  have ho1 : off < m := by omega
  have ho2 : ¬ (m : Int) ≤ off := by omega
  have ho3 : ¬ (off : Int) < 0 := by omega
  have HM : Hid (m = (seenP S.book).length) := hm
  obtain ⟨p, hp⟩ : ∃ p, p = atP S off := ⟨_, rfl⟩
  have HP : Hid (p = (seenP S.book).getD off ⟨#[]⟩) := by unfold Hid; rw [hp]; unfold atP; rw [Int.toNat_natCast]
  rw [← hp]
  clear h hw1 hw8 hm ho h3 hp
  go_enter Tryz.func95, Tryz.ntmps95
  go_wp2_with fail
  refine (C _).mono ?_
  rintro e w2 ⟨rfl, hw⟩
  have hw2 := hw.symm
  subst hw2
  clear hw C
  go_wp2_with fail
  refine CB.mono ?_
  rintro e w3 ⟨vb, rfl, hk3, hb3⟩
  have CP := places_any vb S.book w3 hk3.1 (by have := H3.out; omega)
  have HB3 : Hid (Below w.heap.size w w3) := hb3
  clear CB hk3 hb3
  go_wp2_with fail
  refine CP.mono ?_
  rintro e w4 ⟨v1, rfl, ht1, hb4⟩
  obtain ⟨g1, c1, e9, _, hgc, hgm, hcs⟩ := ht1.cells (by rw [← HM.out]; omega)
  rw [← HM.out] at e9 hgc
  subst e9
  have hcell := hcs off (by rw [← HM.out]; omega)
  rw [← HP.out] at hcell
  have HB4 : Hid (Below w.heap.size w w4) := bel HB3.out hb4
  clear ht1 hb4 CP hcs
  go_wp2_with fail
  go_ret2
  exact ⟨rfl, HB4.out⟩
theorem place_at (D : Nat) (S : Dq) (F : Nat → Prop) (who off : Int) (w : World) (h : DocAt w D S F) :
    Calls Tryz.prog 95 #[.pointer (some ⟨D, 0, none⟩), .int .i64 who, .int .i64 off] w fun e w' => e = .returned (.tuple #[.string (atV S who off), errV (atE S who off)]) ∧ Below w.heap.size w w' := by
  cases hw : Pm.isWho who with
  | false =>
    have e1 : atE S who off = 1 := by unfold atE; rw [if_pos hw]
    have e2 : atV S who off = ⟨#[]⟩ := by unfold atV; rw [e1]; rfl
    rw [e1, e2]
    exact at_who D S F who off w hw
  | true =>
    obtain ⟨h1, h8⟩ := isWho_iff.1 hw
    by_cases ho : off < 0 ∨ ((seenP S.book).length : Int) ≤ off
    · have e1 : atE S who off = 1 := by unfold atE; rw [hw, if_neg (by simp), if_pos ho]
      have e2 : atV S who off = ⟨#[]⟩ := by unfold atV; rw [e1]; rfl
      rw [e1, e2]
      exact at_off D S F who off w h h1 h8 (by omega)
    · have e1 : atE S who off = 0 := by unfold atE; rw [hw, if_neg (by simp), if_neg ho]
      have e2 : atV S who off = atP S off := by unfold atV; rw [if_pos e1]
      rw [e1, e2]
      obtain ⟨o, hoo⟩ : ∃ o : Nat, off = o := ⟨off.toNat, by omega⟩
      subst hoo
      exact at_ok D S F who o w h h1 h8 (by omega)
theorem atE_zero {S : Dq} {who off : Int} : atE S who off = 0 ↔ (1 ≤ who ∧ who ≤ 8) ∧ 0 ≤ off ∧ off < (seenP S.book).length := by
  unfold atE
  cases hw : Pm.isWho who with
  | false => rw [if_pos rfl]; have := isWho_no.1 hw; omega
  | true =>
    have := isWho_iff.1 hw
    rw [if_neg (by simp)]
    by_cases h : off < 0 ∨ ((seenP S.book).length : Int) ≤ off
    · rw [if_pos h]; omega
    · rw [if_neg h]; omega
theorem atE_cases (S : Dq) (who off : Int) : atE S who off = 0 ∨ atE S who off = 1 := by
  unfold atE
  split
  · exact Or.inr rfl
  · split
    · exact Or.inr rfl
    · exact Or.inl rfl
theorem at_chk {S : Dq} {who off : Int} (I : Inv S) (h : atE S who off = 0) : Pm.chk (atP S off).toList = 0 ∧ atP S off ∈ seenP S.book := by
  obtain ⟨_, h0, h1⟩ := atE_zero.1 h
  have hl : off.toNat < (seenP S.book).length := by omega
  have hm : atP S off ∈ seenP S.book := by
    unfold atP; rw [List.getD_eq_getElem?_getD, List.getElem?_eq_getElem hl]; exact List.getElem_mem hl
  obtain ⟨x, hx, _, e⟩ := seenP_mem hm
  obtain ⟨_, hlf, _⟩ := Bm.bookE_zero.1 I.book
  exact ⟨by rw [← e]; exact (Bm.leafE_zero.1 (hlf x hx)).1, hm⟩
/- a row of one op, just laid -/
theorem ops_one {B : Nat} (w : World) (x : Ox) (v : Value) (hB : B ≤ w.heap.size) (hv : w.ownsRow B 74 2 v x.2.2.2.2.length (flatD x.2.2.2.2)) :
    OpsNew B (w.alloc (.cells #[.int .i64 x.1.1, .int .i64 x.1.2, .int .i64 x.2.1, .string x.2.2.1, .int .i64 x.2.2.2.1, v] 99)) (.slice (some ⟨w.heap.size, 0, none⟩) 1 1) [x] := by
  refine ⟨w.heap.size, [(x, v)], rfl, hB, rfl, ⟨_, heap_alloc_new w _, rfl, rfl⟩, by simp, fun y hy => ?_⟩
  rw [List.mem_singleton.1 hy]
  exact own_below hv ((Below.refl _ _).alloc (Nat.le_refl _) _)

set_option maxHeartbeats 1000000 in
theorem split_any (D : Nat) (S : Dq) (F : Nat → Prop) (who off : Int) (w : World) (h : DocAt w D S F) :
    Calls Tryz.prog 66 #[.pointer (some ⟨D, 0, none⟩), .int .i64 who, .int .i64 off] w (EdPost w (atE S who off) (splL S who off)) := by
  have C := place_at D S F who off w h
  have HD : Hid (DocAt w D S F) := h
  rcases atE_cases S who off with h0 | h0
  · obtain ⟨⟨hw1, hw8⟩, _⟩ := atE_zero.1 h0
    rw [h0, show atV S who off = atP S off by unfold atV; rw [if_pos h0], errV_zero] at C
    have HE : Hid (atE S who off = 0) := h0
    obtain ⟨p, hp⟩ : ∃ p, p = atP S off := ⟨_, rfl⟩
    rw [← hp] at C
    have HL : Hid (redot who (kn S who) [((0, 0), 3, p, 0, [])] = splL S who off) := by unfold Hid splL redot; rw [hp]; simp
    have HW : Hid (1 ≤ who ∧ who ≤ 8) := ⟨hw1, hw8⟩
    clear h h0 hp hw1 hw8
    go_enter Tryz.func66, Tryz.ntmps66
    go_wp2_with fail
    refine C.mono ?_
    rintro e w2 ⟨rfl, hb2⟩
    have HB2 : Hid (Below w.heap.size w w2) := hb2
    have hq := ops_one (B := w.heap.size) w2 ((0, 0), 3, p, 0, []) (.slice none 0 0) hb2.size (World.ownsRow_nil _ _ _ _)
    have HB3 : Hid (Below w.heap.size w (w2.alloc (.cells #[.int .i64 0, .int .i64 0, .int .i64 3, .string p, .int .i64 0, .slice none 0 0] 99))) := hb2.alloc hb2.size _
    have CD := dots_any D S F who w.heap.size [((0, 0), 3, p, 0, [])] (.slice (some ⟨w2.heap.size, 0, none⟩) 1 1) _ (HD.out.below HB3.out) HW.out.1 HW.out.2 hq HB3.out.size (by simp)
    rw [HL.out] at CD
    clear hb2 C hq
    go_wp2_with fail
    refine CD.mono ?_
    rintro e w6 ⟨rfl, ho6, hb6⟩
    have HO6 : Hid (OpsNew w.heap.size w6 (.slice (some ⟨w2.heap.size, 0, none⟩) 1 1) (splL S who off)) := ho6
    have HB6 : Hid (Below w.heap.size w w6) := HB3.out.trans hb6
    clear CD ho6 hb6
    go_wp2_with fail
    go_ret2
    exact ⟨_, by rw [HE.out]; rfl, fun _ => HO6.out, fun e => absurd HE.out e, HB6.out⟩
  · rw [h0, show atV S who off = ⟨#[]⟩ by unfold atV; rw [h0]; rfl, errV_ne (by decide)] at C
    have HE : Hid (atE S who off = 1) := h0
    clear h h0
    go_enter Tryz.func66, Tryz.ntmps66
    go_wp2_with fail
    refine C.mono ?_
    rintro e w2 ⟨rfl, hb2⟩
    have HB2 : Hid (Below w.heap.size w w2) := hb2
    clear hb2 C
    go_wp2_with fail
    go_ret2
    exact EdPost.no HE.out (by decide) HB2.out

end Uf
end Go.Proofs.YthalakfphecflaaGreatDoor
