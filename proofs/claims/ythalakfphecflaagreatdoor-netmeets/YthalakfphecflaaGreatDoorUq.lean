/- Package edit: Delete, Fuse. -/
import Derived.Test.YthalakfphecflaaGreatDoorUf
namespace Go.Proofs.YthalakfphecflaaGreatDoor
namespace Uq
set_option linter.unusedVariables false
open Go.ChangeShapes Go.WideShapes Go.ChangeAt Go.RowKit Cm Ka Kb Na Om Oa Oz Oc Og Oi Hm Ia Ib Ic Idc Ie If Ig Ih Ii Ij Ik Il Im Um Ua Ub Uc Ud Ue Uf
open La (bel bel_drew errV_zero errV_ne own_ge own_grow own_below Lies LeafsIn)
open Lj (BookAt BookNew)

def delQ (S : Dq) (a n : Nat) : List Ox := (List.range n).map fun k => ((0, 0), 2, (seenP S.book).getD (a + k) ⟨#[]⟩, 0, [])
theorem delQ_len (S : Dq) (a n : Nat) : (delQ S a n).length = n := by unfold delQ; simp
theorem delQ_at {S : Dq} {a n k : Nat} (hk : k < n) : (delQ S a n).getD k oz = ((0, 0), 2, (seenP S.book).getD (a + k) ⟨#[]⟩, 0, []) := by
  unfold delQ
  rw [List.getD_eq_getElem?_getD, List.getElem?_map, List.getElem?_range hk]; rfl
theorem delP_at {S : Dq} {a n k : Nat} (hk : k < n) : (delP S a ((a + n : Nat) : Int)).getD k ⟨#[]⟩ = (seenP S.book).getD (a + k) ⟨#[]⟩ := by
  unfold delP
  rw [Int.toNat_natCast, Int.toNat_natCast, List.getD_eq_getElem?_getD, List.getD_eq_getElem?_getD, List.getElem?_drop, List.getElem?_take_of_lt (by omega)]
theorem delQ_dot (S : Dq) (who : Int) (a n : Nat) : redot who (kn S who) (delQ S a n) = delL S who a ((a + n : Nat) : Int) := by
  unfold redot delL
  rw [delQ_len, show (((a + n : Nat) : Int) - (a : Int)).toNat = n by omega]
  refine List.map_congr_left fun k hk => ?_
  rw [delQ_at (List.mem_range.1 hk)]
  unfold delO
  rw [delP_at (List.mem_range.1 hk)]

theorem delete_who (D : Nat) (S : Dq) (F : Nat → Prop) (who a b : Int) (w : World) (hw : Pm.isWho who = false) :
    Calls Tryz.prog 65 #[.pointer (some ⟨D, 0, none⟩), .int .i64 who, .int .i64 a, .int .i64 b] w (EdPost w (delE S who a b) (delL S who a b)) := by
  have HE : Hid (delE S who a b = 1) := by unfold Hid delE; rw [if_pos hw]
  have C := fun w => who_no who w (isWho_no.1 hw)
  clear hw
  go_enter Tryz.func65, Tryz.ntmps65
  go_wp2_with fail
  refine (C _).mono ?_
  rintro e w2 ⟨rfl, hw⟩
  have hw2 := hw.symm
  subst hw2
  clear hw C
  go_wp2_with fail
  go_ret2
  exact EdPost.no HE.out (by decide) (Below.refl _ _)
set_option maxHeartbeats 1000000 in
theorem delete_off (D : Nat) (S : Dq) (F : Nat → Prop) (who a b : Int) (w : World) (h : DocAt w D S F) (hw1 : 1 ≤ who) (hw8 : who ≤ 8) (ho : a < 0 ∨ b < a ∨ ((seenP S.book).length : Int) < b) :
    Calls Tryz.prog 65 #[.pointer (some ⟨D, 0, none⟩), .int .i64 who, .int .i64 a, .int .i64 b] w (EdPost w (delE S who a b) (delL S who a b)) := by
  have HE : Hid (delE S who a b = 1) := by unfold Hid delE; rw [isWho_iff.2 ⟨hw1, hw8⟩, if_neg (by simp), if_pos ho]
  have C := fun w => who_ok who w hw1 hw8
  have CB := book_get D S F w h
  have h3 := few_book h.inv
  have H3 : Hid (S.book.length ≤ 300) := h3
  obtain ⟨m, hm⟩ : ∃ m, m = (seenP S.book).length := ⟨_, rfl⟩
  rw [← hm] at ho
  have HM : Hid (m = (seenP S.book).length) := hm
  have ho2 : a < 0 ∨ (¬ a < 0 ∧ b < a) ∨ (¬ a < 0 ∧ ¬ b < a ∧ (m : Int) < b) := by omega
  clear h hw1 hw8 hm h3 ho
  rcases ho2 with h1 | ⟨h1, h2⟩ | ⟨h1, h2, h3⟩
  all_goals
    go_enter Tryz.func65, Tryz.ntmps65
    go_wp2_with fail
    refine (C _).mono ?_
    rintro e w2 ⟨rfl, hw⟩
    have hw2 := hw.symm
    subst hw2
    clear hw C
    go_wp2_with fail
    refine CB.mono ?_
    rintro e w3 ⟨vb, rfl, hk3, hb3⟩
    have CP := places_any vb S.book w3 hk3.1 (by have := H3.out; omega)
    have HB3 : Hid (Below w.heap.size w w3) := hb3
    clear CB hk3 hb3
    go_wp2_with fail
    refine CP.mono ?_
    rintro e w4 ⟨v1, rfl, ht1, hb4⟩
    obtain ⟨p1, c1, rfl, hmx⟩ := ht1.shape
    rw [← HM.out] at hmx ⊢
    have HB4 : Hid (Below w.heap.size w w4) := bel HB3.out hb4
    clear ht1 hb4 CP
    go_wp2_with fail
    go_ret2
    exact EdPost.no HE.out (by decide) HB4.out

set_option maxRecDepth 100000 in
set_option maxHeartbeats 4000000 in
theorem delete_row (D : Nat) (S : Dq) (F : Nat → Prop) (who : Int) (a n : Nat) (w : World) (h : DocAt w D S F) (hw1 : 1 ≤ who) (hw8 : who ≤ 8) (ho : a + n ≤ (seenP S.book).length) :
    Calls Tryz.prog 65 #[.pointer (some ⟨D, 0, none⟩), .int .i64 who, .int .i64 (a : Int), .int .i64 ((a : Int) + n)] w (EdPost w 0 (delL S who a ((a + n : Nat) : Int))) := by
  have C := fun w => who_ok who w hw1 hw8
  have CB := book_get D S F w h
  have HD : Hid (DocAt w D S F) := h
  have h3 := few_book h.inv
  have h4 := seenP_le S.book
  have H3 : Hid (S.book.length ≤ 300) := h3
  obtain ⟨m, hm⟩ : ∃ m, m = (seenP S.book).length := ⟨_, rfl⟩
  have HM : Hid (m = (seenP S.book).length) := hm
  have hm3 : m ≤ 300 := by omega
  have hanm : a + n ≤ m := by omega
  have q1 : ¬ (a : Int) < 0 := by omega
  have q2 : ¬ ((a : Int) + n) < a := by omega
  have q3 : ¬ (m : Int) < (a : Int) + n := by omega
  have q4 : (0 : Int) ≤ (a : Int) := by omega
  have q5 : (a : Int) ≤ (a : Int) + n := by omega
  have q6 : (a : Int) + n ≤ m := by omega
  have HW : Hid (1 ≤ who ∧ who ≤ 8) := ⟨hw1, hw8⟩
  have HDQ : Hid (redot who (kn S who) (delQ S a n) = delL S who a ((a + n : Nat) : Int)) := delQ_dot S who a n
  obtain ⟨i0, hi, hz0, hz1, hz2⟩ := info_parts Ii.infoO
  have HNN : Hid ((a : Int) + n - a = n) := by unfold Hid; omega
  clear h hw1 hw8 hm h3 h4 ho
  go_enter Tryz.func65, Tryz.ntmps65
  go_wp2_with fail
  refine (C _).mono ?_
  rintro e w2 ⟨rfl, hw⟩
  have hw2 := hw.symm
  subst hw2
  clear hw C
  go_wp2_with fail
  refine CB.mono ?_
  rintro e w3 ⟨vb, rfl, hk3, hb3⟩
  have CP := places_any vb S.book w3 hk3.1 (by have := H3.out; omega)
  have HB3 : Hid (Below w.heap.size w w3) := hb3
  clear CB hk3 hb3
  go_wp2_with fail
  refine CP.mono ?_
  rintro e w4 ⟨v1, rfl, ht1, hb4⟩
  have HB4 : Hid (Below w.heap.size w w4) := bel HB3.out hb4
  obtain ⟨p1, c1, hv1, hmc, hmx, HP⟩ : ∃ p c, v1 = .slice p m c ∧ m ≤ c ∧ c ≤ maxLen ∧ Hid ((p = none ∧ m = 0 ∧ c = 0) ∨ ∃ g, p = some ⟨g, 0, none⟩ ∧ ∀ j, j < m → w4.cell? ⟨g, j, none⟩ = some (.string ((seenP S.book).getD j ⟨#[]⟩))) := by
    have hr := ht1.row
    rcases ht1.2 with ⟨e, e0⟩ | ⟨g, cap, cur, rfl, h1, h2, h3, h4, _⟩
    · exact ⟨none, 0, by rw [e, HM.out, e0], by rw [HM.out, e0]; exact Nat.le_refl _, by unfold maxLen; omega, Or.inl ⟨rfl, by rw [HM.out, e0], rfl⟩⟩
    · refine ⟨some ⟨g, 0, none⟩, cap, by rw [HM.out], by rw [HM.out]; exact h3, h4, Or.inr ⟨g, rfl, fun j hj => ?_⟩⟩
      rw [HM.out] at hj
      have := hr.cells (g := g) rfl j (.string ((seenP S.book).getD j ⟨#[]⟩)) (by rw [List.getElem?_map, List.getElem?_eq_getElem hj, List.getD_eq_getElem?_getD, List.getElem?_eq_getElem hj]; rfl)
      rw [Addr.add_lit, Nat.zero_add] at this
      exact this
  subst hv1
  clear ht1 hb4 CP
  have q7 : (m : Int) ≤ c1 := by omega
  have q8 : (a : Int) + n ≤ c1 := by omega
  have hsl : (0 ≤ (a : Int) ∧ (a : Int) ≤ (a : Int) + n) ∧ (a : Int) + n ≤ (m : Int) := ⟨⟨by omega, by omega⟩, by omega⟩
  by_cases hn0 : n = 0
  · have H0 : Hid (n = 0) := hn0
    clear hn0
    rcases HP.out with ⟨rfl, e2, e3⟩ | ⟨g, rfl, hcs⟩
    · clear HP e2 e3
      go_wp2_with (at_make; refine wpList_make_full _ rfl (.tmp 39) (.tmp 39) 53 rfl w.heap.size 99 i0 (.agg #[.int .i64 0, .int .i64 0, .int .i64 0, .string ⟨#[]⟩, .int .i64 0, .slice none 0 0]) 6 Tryz.underlying53 hi hz0 hz1 .i64 .i64 ((a : Int) + n - a) ((a : Int) + n - a) n rfl rfl HNN.out HNN.out (by rw [hz2]; omega) (by unfold maxLen; omega) HB4.out.size ?_; intro w5 hown hgrow; have HST0 : Hid (OpsSt w n (delQ S a n) w4.heap.size 0 w5 []) := ⟨grown_below hgrow HB4.out, row_new hown, rfl, fun y hy => (by cases hy)⟩; clear hown hgrow)
      all_goals
        go_loopw [46] (fun vi wr => ∃ (k : Nat) (L : List (Ox × Value)), k ≤ n ∧ vi = .int .i64 k ∧ Hid (OpsSt w n (delQ S a n) w4.heap.size k wr L)) (fun vi _ => n - (intOf vi).toNat)
        case atStart => exact ⟨0, [], by omega, rfl, HST0⟩
        case round =>
          clear HST0
          obtain ⟨k, L, hk, rfl, HST⟩ := hrel
          obtain rfl : n = k := by have := H0.out; omega
          have hltz : ¬ (n : Int) < n := by omega
          have hq : OpsNew w.heap.size wr (.slice (some ⟨w4.heap.size, 0, none⟩) n n) (delQ S a n) := by
            refine ⟨w4.heap.size, L, by rw [delQ_len], HB4.out.size, ?_, by rw [delQ_len]; exact HST.out.row, by rw [delQ_len]; omega, HST.out.own⟩
            rw [HST.out.ls, List.take_of_length_le (by rw [delQ_len]; exact Nat.le_refl _)]
          have CD := dots_any D S F who w.heap.size (delQ S a n) (.slice (some ⟨w4.heap.size, 0, none⟩) n n) wr (HD.out.below HST.out.bl) HW.out.1 HW.out.2 hq HST.out.bl.size (by rw [delQ_len]; omega)
          rw [HDQ.out] at CD
          clear hq
          go_wp2_with fail
          refine CD.mono ?_
          rintro e w6 ⟨rfl, ho6, hb6⟩
          have HO6 : Hid (OpsNew w.heap.size w6 (.slice (some ⟨w4.heap.size, 0, none⟩) n n) (delL S who a ((a + n : Nat) : Int))) := ho6
          have HB6 : Hid (Below w.heap.size w w6) := HST.out.bl.trans hb6
          clear CD ho6 hb6
          go_wp2_with fail
          go_ret2
          exact ⟨_, rfl, fun _ => HO6.out, fun e => absurd rfl e, HB6.out⟩
    · clear HP hcs
      go_wp2_with (at_make; refine wpList_make_full _ rfl (.tmp 39) (.tmp 39) 53 rfl w.heap.size 99 i0 (.agg #[.int .i64 0, .int .i64 0, .int .i64 0, .string ⟨#[]⟩, .int .i64 0, .slice none 0 0]) 6 Tryz.underlying53 hi hz0 hz1 .i64 .i64 ((a : Int) + n - a) ((a : Int) + n - a) n rfl rfl HNN.out HNN.out (by rw [hz2]; omega) (by unfold maxLen; omega) HB4.out.size ?_; intro w5 hown hgrow; have HST0 : Hid (OpsSt w n (delQ S a n) w4.heap.size 0 w5 []) := ⟨grown_below hgrow HB4.out, row_new hown, rfl, fun y hy => (by cases hy)⟩; clear hown hgrow)
      all_goals
        go_loopw [46] (fun vi wr => ∃ (k : Nat) (L : List (Ox × Value)), k ≤ n ∧ vi = .int .i64 k ∧ Hid (OpsSt w n (delQ S a n) w4.heap.size k wr L)) (fun vi _ => n - (intOf vi).toNat)
        case atStart => exact ⟨0, [], by omega, rfl, HST0⟩
        case round =>
          clear HST0
          obtain ⟨k, L, hk, rfl, HST⟩ := hrel
          obtain rfl : n = k := by have := H0.out; omega
          have hltz : ¬ (n : Int) < n := by omega
          have hq : OpsNew w.heap.size wr (.slice (some ⟨w4.heap.size, 0, none⟩) n n) (delQ S a n) := by
            refine ⟨w4.heap.size, L, by rw [delQ_len], HB4.out.size, ?_, by rw [delQ_len]; exact HST.out.row, by rw [delQ_len]; omega, HST.out.own⟩
            rw [HST.out.ls, List.take_of_length_le (by rw [delQ_len]; exact Nat.le_refl _)]
          have CD := dots_any D S F who w.heap.size (delQ S a n) (.slice (some ⟨w4.heap.size, 0, none⟩) n n) wr (HD.out.below HST.out.bl) HW.out.1 HW.out.2 hq HST.out.bl.size (by rw [delQ_len]; omega)
          rw [HDQ.out] at CD
          clear hq
          go_wp2_with fail
          refine CD.mono ?_
          rintro e w6 ⟨rfl, ho6, hb6⟩
          have HO6 : Hid (OpsNew w.heap.size w6 (.slice (some ⟨w4.heap.size, 0, none⟩) n n) (delL S who a ((a + n : Nat) : Int))) := ho6
          have HB6 : Hid (Below w.heap.size w w6) := HST.out.bl.trans hb6
          clear CD ho6 hb6
          go_wp2_with fail
          go_ret2
          exact ⟨_, rfl, fun _ => HO6.out, fun e => absurd rfl e, HB6.out⟩
  · have hcne : ¬ c1 = a := by omega
    rcases HP.out with ⟨rfl, e2, e3⟩ | ⟨g, rfl, hcs⟩
    · omega
    · have HCS : Hid (∀ j, j < m → w4.cell? ⟨g, j, none⟩ = some (.string ((seenP S.book).getD j ⟨#[]⟩))) := hcs
      clear HP hcs
      go_wp2_with (at_make; refine wpList_make_full _ rfl (.tmp 39) (.tmp 39) 53 rfl w.heap.size 99 i0 (.agg #[.int .i64 0, .int .i64 0, .int .i64 0, .string ⟨#[]⟩, .int .i64 0, .slice none 0 0]) 6 Tryz.underlying53 hi hz0 hz1 .i64 .i64 ((a : Int) + n - a) ((a : Int) + n - a) n rfl rfl HNN.out HNN.out (by rw [hz2]; omega) (by unfold maxLen; omega) HB4.out.size ?_; intro w5 hown hgrow; have HST0 : Hid (OpsSt w n (delQ S a n) w4.heap.size 0 w5 []) := ⟨grown_below hgrow HB4.out, row_new hown, rfl, fun y hy => (by cases hy)⟩; have HC5 : Hid (∀ j, j < m → w5.cell? ⟨g, j, none⟩ = some (.string ((seenP S.book).getD j ⟨#[]⟩))) := (fun j hj => keep_cell (grown_below (w := w4) hgrow (Below.refl _ _)) (HCS.out j hj)); clear hown hgrow)
      go_loopw [46] (fun vi wr => ∃ (k : Nat) (L : List (Ox × Value)), k ≤ n ∧ vi = .int .i64 k ∧ Hid (OpsSt w n (delQ S a n) w4.heap.size k wr L) ∧ Hid (∀ j, j < m → wr.cell? ⟨g, j, none⟩ = some (.string ((seenP S.book).getD j ⟨#[]⟩)))) (fun vi _ => n - (intOf vi).toNat)
      case atStart => exact ⟨0, [], by omega, rfl, HST0, HC5⟩
      case round =>
        clear HST0 HC5
        obtain ⟨k, L, hk, rfl, HST, HCW⟩ := hrel
        by_cases hlt : k < n
        · have hltz : (k : Int) < n := by omega
          have hc0 := HCW.out (a + k) (by omega)
          obtain ⟨p, hp⟩ : ∃ p, p = (seenP S.book).getD (a + k) ⟨#[]⟩ := ⟨_, rfl⟩
          rw [← hp] at hc0
          have HX : Hid ((((0, 0), 2, p, 0, []) : Ox) = (delQ S a n).getD k oz) := by unfold Hid; rw [delQ_at hlt, hp]
          have hgl : g ≠ w4.heap.size := by
            have := World.block_lt_of_cell? _ _ (HCS.out (a + k) (by omega))
            simp only at this
            omega
          have HC6 : Hid (∀ j, j < m → (w6s wr w4.heap.size (k * 6) ((0, 0), 2, p, 0, []) (.slice none 0 0)).cell? ⟨g, j, none⟩ = some (.string ((seenP S.book).getD j ⟨#[]⟩))) := fun j hj => (cell_stay (w6s_block _ _ _ _ _ _ hgl)).trans (HCW.out j hj)
          obtain ⟨⟨y0, z0⟩, g0⟩ := HST.out.row.cell6 hlt 0 (by omega)
          obtain ⟨⟨y1, z1⟩, g1⟩ := HST.out.row.cell6 hlt 1 (by omega)
          obtain ⟨⟨y2, z2⟩, g2⟩ := HST.out.row.cell6 hlt 2 (by omega)
          obtain ⟨⟨y3, z3⟩, g3⟩ := HST.out.row.cell6 hlt 3 (by omega)
          obtain ⟨⟨y4, z4⟩, g4⟩ := HST.out.row.cell6 hlt 4 (by omega)
          obtain ⟨⟨y5, z5⟩, g5⟩ := HST.out.row.cell6 hlt 5 (by omega)
          rw [Nat.add_zero] at z0 g0
          have HP2 : Hid (OpsSt w n (delQ S a n) w4.heap.size (k + 1) (w6s wr w4.heap.size (k * 6) ((0, 0), 2, p, 0, []) (.slice none 0 0)) (L ++ [(((0, 0), 2, p, 0, []), .slice none 0 0)])) := HST.out.put HB4.out.size (by rw [delQ_len]) hlt HX.out (World.ownsRow_nil _ _ _ _)
          clear hp hgl
          go_wp2_with fail
          go_roundw
          case rel => exact ⟨k + 1, _, by omega, by go_num, HP2, HC6⟩
          case measure => simp [intOf]; omega
        · obtain rfl : n = k := by omega
          have hltz : ¬ (n : Int) < n := by omega
          have hq : OpsNew w.heap.size wr (.slice (some ⟨w4.heap.size, 0, none⟩) n n) (delQ S a n) := by
            refine ⟨w4.heap.size, L, by rw [delQ_len], HB4.out.size, ?_, by rw [delQ_len]; exact HST.out.row, by rw [delQ_len]; omega, HST.out.own⟩
            rw [HST.out.ls, List.take_of_length_le (by rw [delQ_len]; exact Nat.le_refl _)]
          have CD := dots_any D S F who w.heap.size (delQ S a n) (.slice (some ⟨w4.heap.size, 0, none⟩) n n) wr (HD.out.below HST.out.bl) HW.out.1 HW.out.2 hq HST.out.bl.size (by rw [delQ_len]; omega)
          rw [HDQ.out] at CD
          clear hq
          go_wp2_with fail
          refine CD.mono ?_
          rintro e w6 ⟨rfl, ho6, hb6⟩
          have HO6 : Hid (OpsNew w.heap.size w6 (.slice (some ⟨w4.heap.size, 0, none⟩) n n) (delL S who a ((a + n : Nat) : Int))) := ho6
          have HB6 : Hid (Below w.heap.size w w6) := HST.out.bl.trans hb6
          clear CD ho6 hb6
          go_wp2_with fail
          go_ret2
          exact ⟨_, rfl, fun _ => HO6.out, fun e => absurd rfl e, HB6.out⟩

theorem delete_any (D : Nat) (S : Dq) (F : Nat → Prop) (who a b : Int) (w : World) (h : DocAt w D S F) :
    Calls Tryz.prog 65 #[.pointer (some ⟨D, 0, none⟩), .int .i64 who, .int .i64 a, .int .i64 b] w (EdPost w (delE S who a b) (delL S who a b)) := by
  cases hw : Pm.isWho who with
  | false => exact delete_who D S F who a b w hw
  | true =>
    obtain ⟨h1, h8⟩ := isWho_iff.1 hw
    by_cases ho : a < 0 ∨ b < a ∨ ((seenP S.book).length : Int) < b
    · exact delete_off D S F who a b w h h1 h8 ho
    · have e0 : delE S who a b = 0 := by unfold delE; rw [hw, if_neg (by simp), if_neg ho]
      obtain ⟨x, hx⟩ : ∃ x : Nat, a = x := ⟨a.toNat, by omega⟩
      obtain ⟨n, hn⟩ : ∃ n : Nat, b = ((x + n : Nat) : Int) := ⟨(b - a).toNat, by omega⟩
      subst hx hn
      rw [e0]
      have := delete_row D S F who x n w h h1 h8 (by omega)
      rw [show ((x : Int) + (n : Int)) = ((x + n : Nat) : Int) by omega] at this
      exact this

end Uq
end Go.Proofs.YthalakfphecflaaGreatDoor
