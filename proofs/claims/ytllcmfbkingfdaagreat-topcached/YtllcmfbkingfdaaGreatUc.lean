/- Package edit: checkText, placeAt. -/
import Derived.Test.YtllcmfbkingfdaaGreatUb
namespace Go.Proofs.YtllcmfbkingfdaaGreat
namespace Uc
set_option linter.unusedVariables false
open Go.ChangeShapes Go.WideShapes Go.ChangeAt Go.RowKit Cm Ka Kb Na Om Oa Oz Oc Og Oi Hm Ia Ib Ic Idc Ie If Ig Ih Ii Ij Ik Il Im Um Ua Ub
open La (bel bel_drew errV_zero errV_ne own_ge own_grow own_below Lies LeafsIn)
open Lj (BookAt BookNew)

theorem letter_no (c : Int) (w : World) (h0 : 0 ≤ c) (h1 : c ≤ 255) : Calls Tryz.prog 54 #[.int .u8 c] w fun e w' => e = .returned (.bool (!Bm.isL c)) ∧ w' = w := by
  have C := fun w => Lb.isLetter_any c w
  obtain ⟨b, hb⟩ : ∃ b, b = Bm.isL c := ⟨_, rfl⟩
  rw [← hb] at C ⊢
  clear hb
  go_enter Tryz.func54, Tryz.ntmps54
  go_wp2_with fail
  refine (C _).mono ?_
  rintro e w2 ⟨rfl, hw⟩
  have hw2 := hw.symm
  subst hw2
  clear hw C
  go_wp2_with fail
  go_ret
  exact ⟨rfl, rfl⟩
theorem ok_take {t : ByteArray} {k : Nat} (hk : k < t.size) (h : (t.toList.take k).all (fun c => Bm.isL (c.toNat : Int)) = true) (hb : Bm.isL ((t.toList.getD k 0).toNat : Int) = true) : (t.toList.take (k + 1)).all (fun c => Bm.isL (c.toNat : Int)) = true := by
  have hk2 : k < t.toList.length := by rw [Om.len_eq]; exact hk
  rw [List.take_add_one, List.getElem?_eq_getElem hk2, List.all_append, h]
  rw [List.getD_eq_getElem?_getD, List.getElem?_eq_getElem hk2] at hb
  simpa using hb
theorem ok_no {t : ByteArray} {k : Nat} (hk : k < t.size) (hb : Bm.isL ((t.toList.getD k 0).toNat : Int) = false) : okText t = false := by
  cases h : okText t with
  | false => rfl
  | true => rw [let_at h hk] at hb; cases hb
set_option maxHeartbeats 1000000 in
theorem index_bytes (g c n : Nat) (t : ByteArray) (w : World) (hn : t.size = n) (hs : n ≤ 200) (hc : ∀ j, j < n → w.cell? ⟨g, j, none⟩ = some (.int .u8 ((t.toList.getD j 0).toNat : Int))) :
    Calls Tryz.prog 77 #[.slice (some ⟨g, 0, none⟩) n c, .func (.func 54) #[] #[]] w fun e w' => (∃ r : Int, e = .returned (.int .i64 r) ∧ okText t = decide (r < 0)) ∧ w' = w := by
  have HN : Hid (t.size = n) := hn
  have HC : Hid (∀ j, j < n → w.cell? ⟨g, j, none⟩ = some (.int .u8 ((t.toList.getD j 0).toNat : Int))) := hc
  clear hn hc
  go_enter Tryz.func77, Tryz.ntmps77
  go_wp2
  go_loopw [8] (fun i wr => ∃ (k : Nat), k ≤ n ∧ i = .int .i64 k ∧ Hid ((t.toList.take k).all (fun c => Bm.isL (c.toNat : Int)) = true) ∧ Hid (wr = w)) (fun i _ => n - (intOf i).toNat)
  case atStart => exact ⟨0, by omega, rfl, rfl, rfl⟩
  case round =>
    obtain ⟨k, hk, rfl, HT, HW⟩ := hrel
    by_cases hlt : k < n
    · have hltz : (k : Int) < n := by omega
      have hcl := HC.out k hlt
      rw [← HW.out] at hcl
      have hkt : k < t.size := by rw [HN.out]; exact hlt
      have HY : Hid (Bm.isL ((t.toList.getD k 0).toNat : Int) = true → (t.toList.take (k + 1)).all (fun c => Bm.isL (c.toNat : Int)) = true) := ok_take hkt HT.out
      have HNO : Hid (Bm.isL ((t.toList.getD k 0).toNat : Int) = false → okText t = false) := ok_no hkt
      have hx0 : (0 : Int) ≤ ((t.toList.getD k 0).toNat : Int) := by omega
      have hx1 : ((t.toList.getD k 0).toNat : Int) ≤ 255 := by have := (t.toList.getD k 0).toNat_lt; omega
      obtain ⟨x, hx⟩ : ∃ x, x = ((t.toList.getD k 0).toNat : Int) := ⟨_, rfl⟩
      rw [← hx] at hcl HY HNO hx0 hx1
      have C := letter_no x wr hx0 hx1
      clear hkt hx
      cases hb : Bm.isL x with
      | true =>
        rw [hb] at C
        have HY2 : Hid ((t.toList.take (k + 1)).all (fun c => Bm.isL (c.toNat : Int)) = true) := HY.out hb
        clear hb HY HNO
        go_wp2_with fail
        refine C.mono ?_
        rintro e w2 ⟨rfl, hw⟩
        have HW2 : Hid (w2 = w) := hw.trans HW.out
        clear hw C hcl
        go_wp2_with fail
        go_roundw
        case rel => exact ⟨k + 1, by omega, by go_num, HY2, HW2⟩
        case measure => simp [intOf]; omega
      | false =>
        rw [hb] at C
        have HY2 : Hid (okText t = false) := HNO.out hb
        clear hb HY HNO
        go_wp2_with fail
        refine C.mono ?_
        rintro e w2 ⟨rfl, hw⟩
        have HW2 : Hid (w2 = w) := hw.trans HW.out
        clear hw C hcl
        go_wp2_with fail
        go_ret
        exact ⟨⟨_, rfl, by rw [HY2.out, decide_eq_false (by omega)]⟩, HW2.out⟩
    · obtain rfl : k = n := by omega
      have HY2 : Hid (okText t = true) := by
        have := HT.out
        rw [List.take_of_length_le (by rw [Om.len_eq, HN.out]; exact Nat.le_refl _)] at this
        exact this
      go_wp2_with fail
      go_ret
      exact ⟨⟨_, rfl, by rw [HY2.out]; rfl⟩, HW.out⟩
theorem contains_bytes (g c n : Nat) (t : ByteArray) (w : World) (hn : t.size = n) (hs : n ≤ 200) (hc : ∀ j, j < n → w.cell? ⟨g, j, none⟩ = some (.int .u8 ((t.toList.getD j 0).toNat : Int))) :
    Calls Tryz.prog 53 #[.slice (some ⟨g, 0, none⟩) n c, .func (.func 54) #[] #[]] w fun e w' => e = .returned (.bool (!okText t)) ∧ w' = w := by
  have C := index_bytes g c n t w hn hs hc
  obtain ⟨b, hb⟩ : ∃ b, b = okText t := ⟨_, rfl⟩
  rw [← hb] at C ⊢
  clear hn hs hc hb
  go_enter Tryz.func53, Tryz.ntmps53
  go_wp2_with fail
  refine C.mono ?_
  rintro e w2 ⟨⟨r, rfl, hr⟩, hw⟩
  have hw2 := hw.symm
  subst hw2
  have HR : Hid (b = decide (r < 0)) := hr
  clear hw C hr
  go_wp2_with fail
  go_ret
  refine ⟨ret_bool ?_, rfl⟩
  rw [HR.out]
  by_cases h : r < 0
  · rw [decide_eq_true h, decide_eq_false (by omega)]; rfl
  · rw [decide_eq_false h, decide_eq_true (by omega)]; rfl

set_option maxRecDepth 100000 in
set_option maxHeartbeats 1000000 in
theorem text_ok (t : ByteArray) (w : World) (hm : t.size ≤ maxLen) : Calls Tryz.prog 32 #[.string t] w fun e w' => e = .returned (errV (textE t)) ∧ Below w.heap.size w w' := by
  by_cases h : 200 < t.size
  · have HE : Hid (errV (textE t) = .iface 69 (.int .i64 4)) := by unfold Hid textE; rw [if_pos h]; rfl
    go_enter Tryz.func32, Tryz.ntmps32
    go_wp2
    go_ret
    exact ⟨by rw [HE.out]; rfl, Below.refl _ _⟩
  · have HE : Hid (errV (textE t) = if okText t = false then .iface 69 (.int .i64 1) else .nilIface) := by unfold Hid textE; rw [if_neg h]; cases okText t <;> rfl
    have hcv := fun w => run_bytes_of_string (P := Tryz.prog) w 9 114 5 t Tryz.underlying9 Tryz.underlying114 Tryz.underlying5
    have hle : t.size ≤ 200 := by omega
    have hnz : ¬ (200 : Int) < t.size := by omega
    clear h
    go_enter Tryz.func32, Tryz.ntmps32
    go_wp2_with fail
    refine (contains_bytes _ _ t.size t _ rfl hle (fun j hj => ?_)).mono ?_
    · first
        | exact text_new w.drew t _ _ j (by rw [Om.len_eq]; exact hj)
        | (rw [World.cell?_drew]; exact text_new w t _ _ j (by rw [Om.len_eq]; exact hj))
    · rintro e w2 ⟨rfl, hw⟩
      have HB : Hid (Below w.heap.size w w2) := by
        unfold Hid; rw [hw]
        first
          | exact ((Below.refl _ w).drew).alloc (Nat.le_refl _) _
          | exact ((Below.refl _ w).alloc (Nat.le_refl _) _).drew
      clear hw hcv
      cases hb : okText t with
      | true =>
        rw [hb] at HE
        go_wp2_with fail
        go_ret
        exact ⟨by rw [HE.out]; rfl, HB.out⟩
      | false =>
        rw [hb] at HE
        go_wp2_with fail
        go_ret
        exact ⟨by rw [HE.out]; rfl, HB.out⟩

end Uc
end Go.Proofs.YtllcmfbkingfdaaGreat
