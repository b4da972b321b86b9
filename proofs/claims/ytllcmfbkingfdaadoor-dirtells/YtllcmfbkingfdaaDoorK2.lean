import Derived.Test.YtllcmfbkingfdaaDoorJ2
import Derived.Test.YtllcmfbkingfdaaDoorJ4
import Derived.Deep.RegionWith
import Derived.Deep.QuietTactic
import Derived.BigQuiet
/- What the reference says of a place (a seat without its letters). -/
namespace Go.Proofs.YtllcmfbkingfdaaDoor
namespace Wp
set_option linter.unusedVariables false
open Go.RowKit Ka Kb La Bm

/- behind the letters: what is left of the test -/
theorem chk_let {s : ByteArray} (h12 : ¬ 12 < s.size) (hall : s.toList.all Pm.isLet = true) (h2 : 2 ≤ s.size) :
    Pm.chk s.toList = if ((s[s.size - 1]'(by omega)).toNat : Int) < 98 then 2 else if 105 < ((s[s.size - 1]'(by omega)).toNat : Int) then 2 else if (((s[s.size - 2]'(by omega)).toNat : Int) == 97) = true then 2 else 0 := by
  have hl := len_eq s
  have h1 := last_eq s (by omega)
  have hc := last2_eq s h2
  unfold Pm.chk
  rw [hl, if_neg h12, if_neg (by omega), hall, hc]
  have hw : Pm.isWho (Pm.whoOf s.toList) = (decide (98 ≤ ((s[s.size - 1]'(by omega)).toNat : Int)) && decide (((s[s.size - 1]'(by omega)).toNat : Int) ≤ 105)) := by
    unfold Pm.isWho Pm.whoOf
    rw [h1]
    rw [Bool.eq_iff_iff]
    simp
    omega
  rw [hw]
  generalize ((s[s.size - 1]'(by omega)).toNat : Int) = x
  generalize (((s[s.size - 2]'(by omega)).toNat : Int) == 97) = y
  by_cases hx1 : x < 98
  · rw [if_pos hx1, decide_eq_false (by omega)]; cases y <;> simp
  · rw [if_neg hx1, decide_eq_true (by omega)]
    by_cases hx2 : 105 < x
    · rw [if_pos hx2, decide_eq_false (by omega)]; cases y <;> simp
    · rw [if_neg hx2, decide_eq_true (by omega)]; cases y <;> simp

set_option maxHeartbeats 1000000 in
theorem place_ref (s : ByteArray) (w : World) (hs : s.size ≤ maxLen) :
    Calls Tryd.prog 19 #[.string s] w fun e w' => e = .returned (.int .i64 (Pm.chk s.toList)) ∧ w' = w := by
  have hl := len_eq s
  have hm := hs
  unfold maxLen at hm
  by_cases h12 : 12 < s.size
  · have H : Hid (Pm.chk s.toList = 4) := by unfold Hid Pm.chk; rw [hl, if_pos h12]
    clear hl
    go_enter Tryd.func19, Tryd.ntmps19
    go_wp2
    go_ret
    exact ⟨ret_int H.out.symm, rfl⟩
  · have HB : Hid (s.toList.all Pm.isLet = false → Pm.chk s.toList = 2) := by
      intro h3; unfold Pm.chk; rw [hl, if_neg h12, h3]; simp
    have HL : Hid (s.size < 2 → Pm.chk s.toList = 2) := by
      intro h3; unfold Pm.chk; rw [hl, if_neg h12, if_pos h3]
    clear hl
    go_enter Tryd.func19, Tryd.ntmps19
    go_wp2
    go_loop [4] (fun i => ∃ k : Nat, k ≤ s.size ∧ i = .int .i64 k ∧ Hid ((s.toList.take k).all Pm.isLet = true)) (fun i => s.size - (intOf i).toNat)
    case atStart => exact ⟨0, Nat.zero_le _, rfl, by unfold Hid; simp⟩
    case round =>
      obtain ⟨k, hk, rfl, HA⟩ := hrel
      by_cases hlt : k < s.size
      · have hb : s[k].toNat < 256 := UInt8.toNat_lt _
        have HA1 : Hid ((s.toList.take (k+1)).all Pm.isLet = Pm.isLet s[k]) := by
          unfold Hid; rw [take_snoc s k hlt, List.all_append, HA.out]; simp
        have HA2 : Hid (∀ c, s.toList.all c = ((s.toList.take (k+1)).all c && (s.toList.drop (k+1)).all c)) := by
          intro c; rw [← List.all_append, List.take_append_drop]
        have HLt : Hid (Pm.isLet s[k] = (!(decide ((s[k].toNat : Int) < 97) || decide (122 < (s[k].toNat : Int))))) := isLet_iff _
        by_cases h1 : (s[k].toNat : Int) < 97
        · have H : Hid (Pm.chk s.toList = 2) := HB.out (by rw [HA2.out, HA1.out, HLt.out, decide_eq_true h1]; rfl)
          go_wp2
          go_ret
          exact ⟨ret_int H.out.symm, rfl⟩
        · by_cases h2 : 122 < (s[k].toNat : Int)
          · have H : Hid (Pm.chk s.toList = 2) := HB.out (by rw [HA2.out, HA1.out, HLt.out, decide_eq_true h2, Bool.or_true]; rfl)
            go_wp2
            go_ret
            exact ⟨ret_int H.out.symm, rfl⟩
          · go_wp2
            go_round
            case rel => exact ⟨k + 1, by omega, by go_num, by unfold Hid; rw [HA1.out, HLt.out, decide_eq_false h1, decide_eq_false h2]; rfl⟩
            case measure => simp [intOf]; omega
      · have HAll : Hid (s.toList.all Pm.isLet = true) := by
          have := HA.out
          unfold Hid; rwa [List.take_of_length_le (by rw [len_eq]; omega)] at this
        by_cases h2 : s.size < 2
        · have H : Hid (Pm.chk s.toList = 2) := HL.out h2
          go_wp2
          go_ret
          exact ⟨ret_int H.out.symm, rfl⟩
        · have hq1 : s.size - 1 < s.size := by omega
          have hq2 : s.size - 2 < s.size := by omega
          have HC := chk_let h12 HAll.out (by omega : 2 ≤ s.size)
          have HC' : Hid (Pm.chk s.toList = if ((s[s.size - 1]'hq1).toNat : Int) < 98 then 2 else if 105 < ((s[s.size - 1]'hq1).toNat : Int) then 2 else if (((s[s.size - 2]'hq2).toNat : Int) == 97) = true then 2 else 0) := HC
          clear HC
          by_cases h3 : ((s[s.size - 1]'hq1).toNat : Int) < 98
          · have H : Hid (Pm.chk s.toList = 2) := by unfold Hid; rw [HC'.out, if_pos h3]
            go_wp2
            go_ret
            exact ⟨ret_int H.out.symm, rfl⟩
          · by_cases h4 : 105 < ((s[s.size - 1]'hq1).toNat : Int)
            · have H : Hid (Pm.chk s.toList = 2) := by unfold Hid; rw [HC'.out, if_neg h3, if_pos h4]
              go_wp2
              go_ret
              exact ⟨ret_int H.out.symm, rfl⟩
            · cases h5 : (((s[s.size - 2]'hq2).toNat : Int) == 97)
              · have H : Hid (Pm.chk s.toList = 0) := by unfold Hid; rw [HC'.out, if_neg h3, if_neg h4, h5]; rfl
                go_wp2
                go_ret
                exact ⟨ret_int H.out.symm, rfl⟩
              · have H : Hid (Pm.chk s.toList = 2) := by unfold Hid; rw [HC'.out, if_neg h3, if_neg h4, h5]; rfl
                go_wp2
                go_ret
                exact ⟨ret_int H.out.symm, rfl⟩


end Wp
end Go.Proofs.YtllcmfbkingfdaaDoor
/- What the reference says of two dots, of two marks, of one. -/
namespace Go.Proofs.YtllcmfbkingfdaaDoor
namespace Wa
set_option linter.unusedVariables false
open Go.ChangeShapes Go.WideShapes Go.ChangeAt Go.RowKit Cm Ka Kb Na Wp
open La (bel bel_drew errV_zero errV_ne own_ge own_grow own_below)

theorem less_ref (a1 a2 b1 b2 : Int) (w : World) :
    Calls Tryd.prog 48 #[.agg #[.int .i64 a1, .int .i64 a2], .agg #[.int .i64 b1, .int .i64 b2]] w fun e w' => e = .returned (.bool (dlt (a1, a2) (b1, b2))) ∧ Below w.heap.size w w' := by
  have HB : Hid (∀ O1 O2, Below w.heap.size w ((w.alloc O1).alloc O2)) := fun O1 O2 => ((Below.refl _ w).alloc (Nat.le_refl _) _).alloc (by simp) _
  have HD : Hid (dlt (a1, a2) (b1, b2) = (decide (a1 < b1) || (decide (a1 = b1) && decide (a2 < b2)))) := rfl
  by_cases h1 : a1 < b1
  · rw [HD.out, decide_eq_true h1]
    clear HD
    go_enter Tryd.func48, Tryd.ntmps48
    go_wp2
    go_ret
    exact ⟨rfl, HB.out _ _⟩
  · by_cases h2 : a1 = b1
    · subst h2
      by_cases h3 : a2 < b2
      · rw [HD.out, decide_eq_false h1, decide_eq_true rfl, decide_eq_true h3]
        clear HD
        go_enter Tryd.func48, Tryd.ntmps48
        go_wp2
        go_ret
        exact ⟨by first | rfl | (refine ret_bool ?_; simp; omega), HB.out _ _⟩
      · rw [HD.out, decide_eq_false h1, decide_eq_true rfl, decide_eq_false h3]
        clear HD
        go_enter Tryd.func48, Tryd.ntmps48
        go_wp2
        go_ret
        exact ⟨by first | rfl | (refine ret_bool ?_; simp; omega), HB.out _ _⟩
    · rw [HD.out, decide_eq_false h1, decide_eq_false h2]
      have h2b : (a1 == b1) = false := by simpa using h2
      clear HD
      go_enter Tryd.func48, Tryd.ntmps48
      go_wp2
      go_ret
      exact ⟨rfl, HB.out _ _⟩

theorem before_ref (pa : ByteArray) (a1 a2 : Int) (pb : ByteArray) (b1 b2 : Int) (w : World) :
    Calls Tryd.prog 32 #[.agg #[.string pa, .int .i64 a1, .int .i64 a2], .agg #[.string pb, .int .i64 b1, .int .i64 b2]] w fun e w' => e = .returned (.bool (mlt (pa, (a1, a2)) (pb, (b1, b2)))) ∧ Below w.heap.size w w' := by
  have HB : Hid (∀ O1 O2, Below w.heap.size w ((w.alloc O1).alloc O2)) := fun O1 O2 => ((Below.refl _ w).alloc (Nat.le_refl _) _).alloc (by simp) _
  by_cases h : pa = pb
  · subst h
    have HM : Hid (mlt (pa, (a1, a2)) (pa, (b1, b2)) = dlt (a1, a2) (b1, b2)) := by unfold Hid mlt; simp [Bm.less_irrefl]
    rw [HM.out]
    obtain ⟨t, ht⟩ : ∃ t, t = dlt (a1, a2) (b1, b2) := ⟨_, rfl⟩
    have C := fun W => less_ref a1 a2 b1 b2 W
    rw [← ht] at C ⊢
    clear HM ht
    go_enter Tryd.func32, Tryd.ntmps32
    go_wp2_with fail
    refine (C _).mono ?_
    rintro e w2 ⟨rfl, hb2⟩
    have HB2 : Hid (Below w.heap.size w w2) := bel (HB.out _ _) hb2
    clear hb2 C
    go_wp2_with fail
    go_ret
    exact ⟨rfl, HB2.out⟩
  · have hne : ¬ pa.toList = pb.toList := fun e => h (Bm.bytes_inj e)
    have hnb : (pa.toList == pb.toList) = false := by simpa using hne
    have HM : Hid (mlt (pa, (a1, a2)) (pb, (b1, b2)) = Op.bytesLess pa.toList pb.toList) := by unfold Hid mlt; simp [h]
    rw [HM.out]
    clear HM
    go_enter Tryd.func32, Tryd.ntmps32
    go_wp2_with fail
    go_ret
    exact ⟨rfl, HB.out _ _⟩

theorem dot_ref (who m : Int) (w : World) :
    Calls Tryd.prog 47 #[.agg #[.int .i64 who, .int .i64 m]] w fun e w' => e = .returned (.int .i64 (dotE who m)) ∧ Below w.heap.size w w' := by
  go_enter Tryd.func47, Tryd.ntmps47
  go_wp2
  all_goals
    go_ret
    refine ⟨?_, (Below.refl _ w).alloc (Nat.le_refl _) _⟩
    unfold dotE
    first
      | (rw [if_pos (by omega)]; rfl)
      | (rw [if_neg (by omega)]; rfl)

theorem mark_ref (s : ByteArray) (a b : Int) (w : World) (hs : s.size ≤ maxLen) :
    Calls Tryd.prog 31 #[.agg #[.string s, .int .i64 a, .int .i64 b]] w fun e w' => e = .returned (.int .i64 (markE (s, (a, b)))) ∧ Below w.heap.size w w' := by
  have C := fun W => place_ref s W hs
  have HB : Hid (∀ O1, Below w.heap.size w (w.alloc O1)) := fun O1 => (Below.refl _ w).alloc (Nat.le_refl _) _
  by_cases h : Pm.chk s.toList = 0
  · rw [h] at C
    have HM : Hid (markE (s, (a, b)) = dotE a b) := by unfold Hid markE; rw [if_neg (by simpa using h)]
    rw [HM.out]
    obtain ⟨z, hz⟩ : ∃ z, z = dotE a b := ⟨_, rfl⟩
    have C2 := fun W => dot_ref a b W
    rw [← hz] at C2 ⊢
    clear HM hz h
    go_enter Tryd.func31, Tryd.ntmps31
    go_wp2_with fail
    refine (C _).mono ?_
    rintro e w2 ⟨rfl, hw⟩
    have hw2 := hw.symm; subst hw2; clear hw C
    go_wp2_with fail
    refine (C2 _).mono ?_
    rintro e w3 ⟨rfl, hb3⟩
    have HB3 : Hid (Below w.heap.size w w3) := bel (HB.out _) hb3
    clear hb3 C2
    go_wp2_with fail
    go_ret
    exact ⟨rfl, HB3.out⟩
  · have HM : Hid (markE (s, (a, b)) = Pm.chk s.toList) := by unfold Hid markE; rw [if_pos h]
    rw [HM.out]
    obtain ⟨z, hz⟩ : ∃ z, z = Pm.chk s.toList := ⟨_, rfl⟩
    have hzb : (z == 0) = false := by rw [hz]; simpa using h
    rw [← hz] at C ⊢
    clear HM hz h
    go_enter Tryd.func31, Tryd.ntmps31
    go_wp2_with fail
    refine (C _).mono ?_
    rintro e w2 ⟨rfl, hw⟩
    have hw2 := hw.symm; subst hw2; clear hw C
    go_wp2_with fail
    go_ret
    exact ⟨rfl, HB.out _⟩

end Wa
end Go.Proofs.YtllcmfbkingfdaaDoor
/- What the reference says of marks: Marks. -/
namespace Go.Proofs.YtllcmfbkingfdaaDoor
namespace Wb
set_option linter.unusedVariables false
open Go.ChangeShapes Go.WideShapes Go.ChangeAt Go.RowKit Cm Ka Kb Na Nb Nc Nd Wp Wa
open La (bel bel_drew errV_zero errV_ne own_ge own_grow own_below)

set_option maxRecDepth 100000 in
set_option maxHeartbeats 2000000 in
theorem marks_ref (v : Value) (l : List Mk) (w : World) (hA : MksAt w v l) (hs : ∀ x ∈ l, x.1.size ≤ maxLen) :
    Calls Tryd.prog 11 #[v] w fun e w' => e = .returned (.int .i64 (marksE l)) ∧ Below w.heap.size w w' := by
  obtain ⟨p, c, rfl, h, hc0, hcm, _⟩ := hA
  obtain ⟨n, hl⟩ : ∃ n, l.length = n := ⟨_, rfl⟩
  rw [hl] at hc0
  rw [hl]
  have hn : n ≤ 9223372036854775807 := by unfold maxLen at hcm; omega
  clear hc0 hcm
  by_cases h40 : 40 < n
  · have HE : Hid (marksE l = 4) := by unfold Hid marksE; rw [hl, if_pos h40]
    have hz : (40 : Int) < n := by omega
    clear hl h hs
    go_enter Tryd.func11, Tryd.ntmps11
    go_wp2
    go_ret
    exact ⟨by rw [HE.out]; rfl, Below.refl _ _⟩
  · have HE : Hid (marksE l = goesM none l) := by unfold Hid marksE; rw [hl, if_neg h40]
    have hz : ¬ (40 : Int) < n := by omega
    have HL : Hid (l.length = n) := hl
    have HI : Hid (MarksIn w p l) := h
    have HS : Hid (∀ x ∈ l, x.1.size ≤ maxLen) := hs
    clear hl h hs
    go_enter Tryd.func11, Tryd.ntmps11
    go_wp2
    go_loopw [3] (fun i wr => ∃ (k : Nat), k ≤ n ∧ i = .int .i64 k ∧ Hid (goesM (prvM l k) (l.drop k) = goesM none l) ∧ Hid (Below w.heap.size w wr)) (fun i _ => n - (intOf i).toNat)
    case atStart => exact ⟨0, by omega, rfl, rfl, Below.refl _ _⟩
    case round =>
      obtain ⟨k, hk, rfl, HG, HB⟩ := hrel
      by_cases hlt : k < n
      · have hltz : (k : Int) < n := by omega
        obtain ⟨b, o, rfl, hc⟩ := HI.out.some (by intro e; have := HL.out; rw [e] at this; simp at this; omega)
        have hkl : k < l.length := by rw [HL.out]; exact hlt
        have ha := (hc k hkl).below HB.out (hc k hkl).lt
        have HP : Hid (∀ j, j + 1 = k → MAt wr b o j (l.getD j none1)) := fun j hj => (hc j (by omega)).below HB.out (hc j (by omega)).lt
        obtain ⟨x, hx⟩ : ∃ x, x = l.getD k none1 := ⟨_, rfl⟩
        have hss : x.1.size ≤ maxLen := by rw [hx]; exact HS.out _ (getM_mem hkl)
        rw [← hx] at ha
        have HD := goes_step hkl hx
        obtain ⟨sx, x1, x2⟩ := x
        obtain ⟨a1, a2, a3⟩ := ha
        simp only at a1 a2 a3 hss
        clear hc hx
        have C := mark_ref sx x1 x2 wr hss
        by_cases h0 : markE (sx, (x1, x2)) = 0
        · rw [h0] at C
          rw [if_neg (by simpa using h0)] at HD
          clear h0 hss
          by_cases hk0 : k = 0
          · subst hk0
            have HG2 : Hid (goesM (prvM l (0 + 1)) (l.drop (0 + 1)) = goesM none l) := by
              unfold Hid; rw [← HG.out, HD]; rfl
            clear HD HP
            simp only [Nat.zero_mul, Nat.add_zero] at a1 a2 a3
            go_wp2_with fail
            refine C.mono ?_
            rintro e w2 ⟨rfl, hb2⟩
            have HB2 : Hid (Below w.heap.size w w2) := bel HB.out hb2
            clear hb2 C a1 a2 a3
            go_wp2_with fail
            go_quiet (fail)
            go_wp2_with fail
            go_roundw
            case rel => exact ⟨0 + 1, by omega, by go_num, HG2, bel_drew HB2.out _⟩
            case measure => simp [intOf]; omega
          · obtain ⟨m, hm⟩ : ∃ m, m + 1 = k := ⟨k - 1, by omega⟩
            have hpm := HP.out m hm
            have HPV : Hid (prvM l k = some (l.getD m none1)) := by unfold Hid prvM; rw [if_neg hk0, show k - 1 = m by omega]
            rw [HG.out, HPV.out] at HD
            obtain ⟨y, hy⟩ : ∃ y, y = l.getD m none1 := ⟨_, rfl⟩
            rw [← hy] at HD hpm
            obtain ⟨sy, y1, y2⟩ := y
            obtain ⟨c1, c2, c3⟩ := hpm
            simp only at c1 c2 c3 HD
            have C2 := fun W => before_ref sy y1 y2 sx x1 x2 W
            have hkb : ((k : Int) == 0) = false := by rw [beq_eq_false_iff_ne]; omega
            have hkn : (k == 0) = false := by rw [beq_eq_false_iff_ne]; omega
            have hke : ¬ (k = 0) := hk0
            have hkd : decide (k = 0) = false := decide_eq_false hk0
            have hkm : IntKind.i64.wrap ((k : Int) - 1) = (m : Int) := by rw [show (k : Int) - 1 = (m : Int) by omega]; exact wrap_in (by omega) (by omega)
            have hmz : (m : Int) < n := by omega
            have HLT : Hid (b < wr.heap.size) := World.block_lt_of_cell? _ ⟨b, o + k * 3, none⟩ a1
            clear hy HPV HP hk0
            cases hq : mlt (sy, (y1, y2)) (sx, (x1, x2))
            · rw [hq] at C2
              have HQ : Hid (marksE l = 7) := by
                unfold Hid; rw [HE.out, HD, show okM (some (sy, (y1, y2))) (sx, (x1, x2)) = false from hq, if_pos rfl]
              clear hq HD
              go_wp2_with fail
              refine C.mono ?_
              rintro e w2 ⟨rfl, hb2⟩
              have HB2 : Hid (Below w.heap.size w w2) := bel HB.out hb2
              have e1 := keep_cell hb2 a1
              have e2 := keep_cell hb2 a2
              have e3 := keep_cell hb2 a3
              have f1 := keep_cell hb2 c1
              have f2 := keep_cell hb2 c2
              have f3 := keep_cell hb2 c3
              clear hb2 C a1 a2 a3 c1 c2 c3
              go_wp2_with fail
              go_region_held3 (fun W => W.cell? ⟨b, o + m * 3, none⟩ = some (.string sy) ∧ W.cell? ⟨b, o + m * 3 + 1, none⟩ = some (.int .i64 y1) ∧ W.cell? ⟨b, o + m * 3 + 2, none⟩ = some (.int .i64 y2) ∧ W.cell? ⟨b, o + k * 3, none⟩ = some (.string sx) ∧ W.cell? ⟨b, o + k * 3 + 1, none⟩ = some (.int .i64 x1) ∧ W.cell? ⟨b, o + k * 3 + 2, none⟩ = some (.int .i64 x2)) (first | (go_keep; done) | (refine ⟨keep_cell hb7 ?_, keep_cell hb7 ?_, keep_cell hb7 ?_, keep_cell hb7 ?_, keep_cell hb7 ?_, keep_cell hb7 ?_⟩ <;> (go_split_ands; assumption))) (first
                | (go_at_call 32; refine (C2 _).mono ?_; rintro e w7 ⟨rfl, hb7⟩; have HB7 : Hid (Below w.heap.size w w7) := bel HB2.out.drew hb7))
              all_goals
                go_wp2_with fail
                go_ret
                exact ⟨by rw [HQ.out]; rfl, HB7.out⟩
            · rw [hq] at C2
              have HG2 : Hid (goesM (prvM l (k + 1)) (l.drop (k + 1)) = goesM none l) := by
                unfold Hid; rw [HD, show okM (some (sy, (y1, y2))) (sx, (x1, x2)) = true from hq, if_neg (by decide)]
              clear hq HD
              go_wp2_with fail
              refine C.mono ?_
              rintro e w2 ⟨rfl, hb2⟩
              have HB2 : Hid (Below w.heap.size w w2) := bel HB.out hb2
              have e1 := keep_cell hb2 a1
              have e2 := keep_cell hb2 a2
              have e3 := keep_cell hb2 a3
              have f1 := keep_cell hb2 c1
              have f2 := keep_cell hb2 c2
              have f3 := keep_cell hb2 c3
              clear hb2 C a1 a2 a3 c1 c2 c3
              go_wp2_with fail
              go_region_held3 (fun W => W.cell? ⟨b, o + m * 3, none⟩ = some (.string sy) ∧ W.cell? ⟨b, o + m * 3 + 1, none⟩ = some (.int .i64 y1) ∧ W.cell? ⟨b, o + m * 3 + 2, none⟩ = some (.int .i64 y2) ∧ W.cell? ⟨b, o + k * 3, none⟩ = some (.string sx) ∧ W.cell? ⟨b, o + k * 3 + 1, none⟩ = some (.int .i64 x1) ∧ W.cell? ⟨b, o + k * 3 + 2, none⟩ = some (.int .i64 x2)) (first | (go_keep; done) | (refine ⟨keep_cell hb7 ?_, keep_cell hb7 ?_, keep_cell hb7 ?_, keep_cell hb7 ?_, keep_cell hb7 ?_, keep_cell hb7 ?_⟩ <;> (go_split_ands; assumption))) (first
                | (go_at_call 32; refine (C2 _).mono ?_; rintro e w7 ⟨rfl, hb7⟩; have HB7 : Hid (Below w.heap.size w w7) := bel HB2.out.drew hb7))
              all_goals
                go_wp2_with fail
                go_roundw
                case rel => exact ⟨k + 1, by omega, by go_num, HG2, HB7⟩
                case measure => simp [intOf]; omega
        · obtain ⟨q, hq⟩ : ∃ q, q = markE (sx, (x1, x2)) := ⟨_, rfl⟩
          have HQ : Hid (marksE l = q) := by
            unfold Hid; rw [HE.out, ← HG.out, HD, if_pos h0, hq]
          have hqb : (q != 0) = true := by rw [hq]; simpa using h0
          rw [← hq] at C
          clear HD h0 hss hq HP
          go_wp2_with fail
          refine C.mono ?_
          rintro e w2 ⟨rfl, hb2⟩
          have HB2 : Hid (Below w.heap.size w w2) := bel HB.out hb2
          clear hb2 C
          go_wp2_with fail
          go_ret
          exact ⟨by rw [HQ.out]; rfl, HB2.out⟩
      · obtain rfl : k = n := by omega
        have HZ : Hid (goesM none l = 0) := by
          unfold Hid; rw [← HG.out, List.drop_of_length_le (by rw [HL.out]; exact Nat.le_refl _)]; rfl
        go_wp2_with fail
        go_ret
        exact ⟨by rw [HE.out, HZ.out]; rfl, HB.out⟩

end Wb
end Go.Proofs.YtllcmfbkingfdaaDoor
