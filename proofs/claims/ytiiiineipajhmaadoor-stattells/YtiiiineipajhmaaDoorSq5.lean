/- The reference's Who and Runs, of a book that is right. -/
import Derived.Test.YtiiiineipajhmaaDoorSq3
import Derived.Test.YtiiiineipajhmaaDoorK1
namespace Go.Proofs.YtiiiineipajhmaaDoor
namespace Sq5
set_option linter.unusedVariables false
open Go.ChangeShapes Go.WideShapes Go.ChangeAt Go.RowKit Ka Kb Sq1 Sq2 Sq3
open Na (flatD flatD_append flatD_length flatD_at flatD_one cells2)
open Bm (Leaf none0 bookE leafE isS text bookE_zero getD_mem)
open La (bel bel_drew errV_zero errV_ne own_ge own_grow own_below LeafsIn)
open Lp (seen_ref)

theorem who_ref (s : ByteArray) (w : World) (h : 0 < s.size) (hs : s.size ≤ maxLen) :
    Calls Tryd.prog 15 #[.string s] w fun e w' => e = .returned (.int .i64 (Pm.whoOf s.toList)) ∧ w' = w := by
  have hl := last_eq s h
  have hb : (s[s.size - 1]'(by omega)).toNat < 256 := UInt8.toNat_lt _
  have H : Hid (Pm.whoOf s.toList = ((s[s.size - 1]'(by omega)).toNat : Int) - 97) := by
    unfold Pm.whoOf Hid; rw [hl]
  clear hl
  unfold maxLen at hs
  go_enter Tryd.func15, Tryd.ntmps15
  go_wp2
  go_ret
  refine ⟨ret_int ?_, rfl⟩
  rw [H.out]

set_option maxRecDepth 100000 in
set_option maxHeartbeats 4000000 in
theorem runs_ref (p : Option Addr) (n c : Nat) (l : List Leaf) (w : World) (hl : l.length = n) (h : LeafsIn w p l) (h0 : bookE l = 0) :
    Calls Tryd.prog 5 #[.slice p n c] w fun e w' => ∃ v, e = .returned v ∧ Hid (Own w.heap.size w' v (runs l)) ∧ Hid (Below w.heap.size w w') := by
  obtain ⟨hb1, hb2, _⟩ := bookE_zero.1 h0
  obtain ⟨i0, hi, hz0, hz1, hz2⟩ := info_parts info2
  have hn3 : n ≤ 300 := by omega
  have HE : Hid (∀ x ∈ l, leafE x = 0) := hb2
  have HL : Hid (l.length = n) := hl
  have HI : Hid (LeafsIn w p l) := h
  clear hl h h0 hb1 hb2
  go_enter Tryd.func5, Tryd.ntmps5
  go_wp2
  go_loopw [3, 4, 5, 6, 7] (fun v i _ _ _ wr => ∃ (k : Nat), k ≤ n ∧ i = .int .i64 k ∧ Hid (Own w.heap.size wr v (runs (l.take k))) ∧ Hid (Below w.heap.size w wr)) (fun _ i _ _ _ _ => n - (intOf i).toNat)
  case atStart => exact ⟨0, by omega, rfl, Own.nil _ _, Below.refl _ _⟩
  case round =>
    obtain ⟨k, hk, rfl, HW, HB⟩ := hrel
    by_cases hlt : k < n
    · have hltz : (k : Int) < n := by omega
      obtain ⟨b, o, rfl, hc⟩ := HI.out.some (by intro e; have := HL.out; rw [e] at this; simp at this; omega)
      have hkl : k < l.length := by rw [HL.out]; exact hlt
      have ha := (hc k hkl).below HB.out (hc k hkl).lt
      have HT : Hid (runs (l.take (k + 1)) = stepR (runs (l.take k)) (l.getD k none0)) := runs_take hkl
      have HRN := runs_ok_take HE.out k
      have htl := text_take_le l k
      rw [HL.out] at htl
      have hcx := Bm.chk_pos (Bm.leafE_zero.1 (HE.out _ (getD_mem hkl))).1
      rw [len_eq] at hcx
      obtain ⟨x, hx⟩ : ∃ x, x = l.getD k none0 := ⟨_, rfl⟩
      rw [← hx] at ha HT hcx
      obtain ⟨sx, nx, bx⟩ := x
      have hb0 : b < wr.heap.size := ha.lt
      obtain ⟨a1, a2, a3⟩ := ha
      clear hc hx
      simp only at a1 a2 a3 hcx
      have C := seen_ref sx nx bx wr
      obtain ⟨r, hr⟩ : ∃ r, r = runs (l.take k) := ⟨_, rfl⟩
      rw [← hr] at HT HRN HW
      have HRL := HRN.len
      have HMN : Hid (∀ j, 0 ≤ (r.getD j zp).2 ∧ (r.getD j zp).2 ≤ 1048576) := by
        intro j
        have h1 := HRN.le j
        refine ⟨?_, by omega⟩
        by_cases hj : j < r.length
        · have := HRN.many j hj; omega
        · rw [List.getD_eq_getElem?_getD, List.getElem?_eq_none (by omega)]; exact Int.le_refl _
      have hr3 : r.length ≤ 300 := by omega
      clear HRN htl hr HRL
      cases hse : isS (sx, nx, bx)
      · rw [hse] at C
        have HW2 : Hid (Own w.heap.size wr u3 (runs (l.take (k + 1)))) := by
          unfold Hid; rw [HT.out]; unfold stepR; rw [hse, if_neg (by decide)]; exact HW.out
        clear hse
        go_wp2_with fail
        refine C.mono ?_
        rintro e w2 ⟨rfl, hb2⟩
        have HB2 : Hid (Below w.heap.size w w2) := bel HB.out hb2
        have HW3 : Hid (Own w.heap.size w2 u3 (runs (l.take (k + 1)))) := own_below HW2.out hb2
        clear hb2 C a1 a2 a3
        go_wp2_with fail
        go_roundw
        case rel => exact ⟨k + 1, by omega, by go_num, HW3, HB2⟩
        case measure => simp [intOf]; omega
      · rw [hse] at C
        have HT2 : Hid (runs (l.take (k + 1)) = addR r (Pm.whoOf sx.toList)) := by
          unfold Hid; rw [HT.out]; unfold stepR; rw [hse, if_pos rfl]; rfl
        obtain ⟨a, hwa⟩ : ∃ a, a = Pm.whoOf sx.toList := ⟨_, rfl⟩
        rw [← hwa] at HT2
        have CW : ∀ w, Calls Tryd.prog 15 #[.string sx] w fun e w' => e = .returned (.int .i64 a) ∧ w' = w := fun w => by rw [hwa]; exact who_ref sx w (by omega) (by unfold maxLen; omega)
        clear hse hwa
        obtain ⟨pv, cv, rfl, hp⟩ := HW.out.shape
        obtain ⟨m, hm⟩ : ∃ m, m = r.length := ⟨_, rfl⟩
        have HN : Hid (r.length = m) := hm.symm
        rw [← hm] at hp hr3 HW
        go_wp2_with fail
        rw [← hm]
        refine C.mono ?_
        rintro e w2 ⟨rfl, hb2⟩
        have HB2 : Hid (Below w.heap.size w w2) := bel HB.out hb2
        have HW3 : Hid (Own w.heap.size w2 (.slice pv m cv) r) := own_below HW.out hb2
        have hsz2 := HB2.out.size
        have d1 := (hb2.cell (World.block_lt_of_cell? _ _ a1)).trans a1
        clear hb2 C a1 a2 a3 hm
        go_wp2_with fail
        refine (CW w2).mono ?_
        rintro e w3 ⟨rfl, hw⟩
        have hw2 := hw.symm; subst hw2; clear hw CW
        by_cases h0 : m = 0
        · have HG : Hid (addR r a = r ++ [(a, 1)]) := by
            unfold Hid addR; rw [if_neg]; rw [List.eq_nil_of_length_eq_zero (by rw [HN.out]; exact h0 : r.length = 0)]; simp [goesOn]
          subst h0
          clear hp
          go_wp2_with (at_builtin; refine wpList_append_own_at _ rfl (.tmp 51) (.tmp 54) 24 rfl w.heap.size 27 i0 (.agg #[.int .i64 0, .int .i64 0]) 2 16 Tryd.underlying24 hi hz0 hz1 hz2 rfl (by decide) (.slice pv 0 cv) _ _ rfl (World.ownsRow.alloc HW3.out _) ⟨w2.heap.size, 0, none⟩ 1 1 [.int .i64 a, .int .i64 1] rfl rfl (two_new _ _ _ _) (by simp [Value.oneCell']) (by unfold maxLen; rw [HN.out]; omega) (by rw [HN.out]; omega) (by simp; omega) ?_; intro v9 w9 hown9 hgrow9 _ hat9; have HO9 : Hid (Own w.heap.size w9 v9 (runs (l.take (k + 1)))) := (by rw [HT2.out, HG.out]; exact Own.more hown9); have HB9 : Hid (Below w.heap.size w w9) := (own_grow HW3.out (HB2.out.alloc hsz2 _) hgrow9 (by simp; omega)); clear hown9 hgrow9 hat9)
          go_roundw
          case rel => exact ⟨k + 1, by omega, by go_num, HO9, HB9⟩
          case measure => simp [intOf]; omega
        · obtain ⟨m, rfl⟩ : ∃ q, m = q + 1 := ⟨m - 1, by omega⟩
          obtain ⟨g, rfl, hg⟩ := hp (by omega)
          obtain ⟨c1, c2⟩ := HW3.out.cells HN.out (show m < m + 1 by omega)
          have hfr : w2.frozen? ⟨g, m * 2 + 1, none⟩ = false := by
            have := HW3.out; unfold Own at this; rw [HN.out] at this; exact this.frozenAt _
          have hmm := HMN.out m
          have HLA : Hid (lastP r = r.getD m zp) := by unfold Hid lastP; rw [HN.out]; rfl
          obtain ⟨x, hx⟩ : ∃ x, x = r.getD m zp := ⟨_, rfl⟩
          rw [← hx] at c1 c2 hmm HLA
          have HX : Hid (x = r.getD m zp) := hx
          obtain ⟨xa, xm⟩ := x
          simp only at c1 c2 hmm
          obtain ⟨hm0, hm1⟩ := hmm
          clear hx hp h0
          cases hq : (xa == a)
          · have HG : Hid (addR r a = r ++ [(a, 1)]) := by
              unfold Hid addR; rw [if_neg]; simp only [goesOn, HLA.out]; simp at hq ⊢; intro _; exact hq
            go_wp2_with (at_builtin; refine wpList_append_own_at _ rfl (.tmp 51) (.tmp 54) 24 rfl w.heap.size 27 i0 (.agg #[.int .i64 0, .int .i64 0]) 2 16 Tryd.underlying24 hi hz0 hz1 hz2 rfl (by decide) (.slice (some ⟨g, 0, none⟩) (m + 1) cv) _ _ rfl (World.ownsRow.alloc HW3.out _) ⟨w2.heap.size, 0, none⟩ 1 1 [.int .i64 a, .int .i64 1] rfl rfl (two_new _ _ _ _) (by simp [Value.oneCell']) (by unfold maxLen; rw [HN.out]; omega) (by rw [HN.out]; omega) (by simp; omega) ?_; intro v9 w9 hown9 hgrow9 _ hat9; have HO9 : Hid (Own w.heap.size w9 v9 (runs (l.take (k + 1)))) := (by rw [HT2.out, HG.out]; exact Own.more hown9); have HB9 : Hid (Below w.heap.size w w9) := (own_grow HW3.out (HB2.out.alloc hsz2 _) hgrow9 (by simp; omega)); clear hown9 hgrow9 hat9)
            go_roundw
            case rel => exact ⟨k + 1, by omega, by go_num, HO9, HB9⟩
            case measure => simp [intOf]; omega
          · have HG : Hid (addR r a = r.set m (xa, xm + 1)) := by
              have e : xa = a := by simpa using hq
              unfold Hid addR
              rw [if_pos, HN.out, HLA.out]; · rfl
              simp only [goesOn, HLA.out, e]; simp
              rintro rfl; have := HN.out; simp at this
            have HO2 : Hid (Own w.heap.size (w2.setCell ⟨g, m * 2 + 1, none⟩ (.int .i64 (xm + 1))) (.slice (some ⟨g, 0, none⟩) (m + 1) cv) (runs (l.take (k + 1)))) := by
              unfold Hid; rw [HT2.out, HG.out]
              have h1 := HW3.out
              unfold Own at h1 ⊢
              rw [List.length_set, HN.out]
              rw [HN.out] at h1
              have h2 := (h1.stored (m * 2 + 1) (.int .i64 (xm + 1))).1
              rw [set_flat r m (xm + 1) (by rw [HN.out]; omega), ← HX.out] at h2
              exact h2
            have HBN : Hid (Below w.heap.size w (w2.setCell ⟨g, m * 2 + 1, none⟩ (.int .i64 (xm + 1)))) := HB2.out.setCell hg _
            have hwr : IntKind.i64.wrap (xm + 1) = xm + 1 := wrap_in (by omega) (by omega)
            go_wp2
            go_region
            go_wp2
            go_roundw
            case rel => exact ⟨k + 1, by omega, by go_num, HO2.out, bel_dr HBN.out⟩
            case measure => simp [intOf]; omega
    · obtain rfl : k = n := by omega
      have HW2 : Hid (Own w.heap.size wr u3 (runs l)) := by
        have := HW.out
        rwa [List.take_of_length_le (by rw [HL.out]; exact Nat.le_refl _)] at this
      go_wp2_with fail
      go_ret
      exact ⟨_, rfl, HW2, HB⟩

end Sq5
end Go.Proofs.YtiiiineipajhmaaDoor
