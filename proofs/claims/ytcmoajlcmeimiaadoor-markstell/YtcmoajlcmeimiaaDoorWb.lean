/- What the reference says of marks: Marks. -/
import Derived.Test.YtcmoajlcmeimiaaDoorWa
import Derived.Test.YtcmoajlcmeimiaaDoorNd
namespace Go.Proofs.YtcmoajlcmeimiaaDoor
namespace Wb
set_option linter.unusedVariables false
open Go.ChangeShapes Go.WideShapes Go.ChangeAt Go.RowKit Cm Ka Kb Na Nb Nc Nd Wp Wa
open La (bel bel_drew errV_zero errV_ne own_ge own_grow own_below)

set_option maxRecDepth 100000 in
set_option maxHeartbeats 2000000 in
theorem marks_ref (v : Value) (l : List Mk) (w : World) (hA : MksAt w v l) (hs : ∀ x ∈ l, x.1.size ≤ maxLen) :
    Calls Tryd.prog 6 #[v] w fun e w' => e = .returned (.int .i64 (marksE l)) ∧ Below w.heap.size w w' := by
  obtain ⟨p, c, rfl, h, hc0, hcm, _⟩ := hA
  obtain ⟨n, hl⟩ : ∃ n, l.length = n := ⟨_, rfl⟩
  rw [hl] at hc0
  rw [hl]
  have hn : n ≤ 9223372036854775807 := by unfold maxLen at hcm; omega
  clear hc0 hcm
  by_cases h40 : 40 < n
  · have HE : Hid (marksE l = 4) := by unfold Hid marksE; rw [hl, if_pos h40]
    have hz : (40 : Int) < n := by omega
    clear hl h hs
    go_enter Tryd.func6, Tryd.ntmps6
    go_wp2
    go_ret
    exact ⟨by rw [HE.out]; rfl, Below.refl _ _⟩
  · have HE : Hid (marksE l = goesM none l) := by unfold Hid marksE; rw [hl, if_neg h40]
    have hz : ¬ (40 : Int) < n := by omega
    have HL : Hid (l.length = n) := hl
    have HI : Hid (MarksIn w p l) := h
    have HS : Hid (∀ x ∈ l, x.1.size ≤ maxLen) := hs
    clear hl h hs
    go_enter Tryd.func6, Tryd.ntmps6
    go_wp2
    go_loopw [3] (fun i wr => ∃ (k : Nat), k ≤ n ∧ i = .int .i64 k ∧ Hid (goesM (prvM l k) (l.drop k) = goesM none l) ∧ Hid (Below w.heap.size w wr)) (fun i _ => n - (intOf i).toNat)
    case atStart => exact ⟨0, by omega, rfl, rfl, Below.refl _ _⟩
    case round =>
      obtain ⟨k, hk, rfl, HG, HB⟩ := hrel
      by_cases hlt : k < n
      · have hltz : (k : Int) < n := by omega
        obtain ⟨b, o, rfl, hc⟩ := HI.out.some (by intro e; have := HL.out; rw [e] at this; simp at this; omega)
        have hkl : k < l.length := by rw [HL.out]; exact hlt
        have ha := (hc k hkl).below HB.out (hc k hkl).lt
        have HP : Hid (∀ j, j + 1 = k → MAt wr b o j (l.getD j none1)) := fun j hj => (hc j (by omega)).below HB.out (hc j (by omega)).lt
        obtain ⟨x, hx⟩ : ∃ x, x = l.getD k none1 := ⟨_, rfl⟩
        have hss : x.1.size ≤ maxLen := by rw [hx]; exact HS.out _ (getM_mem hkl)
        rw [← hx] at ha
        have HD := goes_step hkl hx
        obtain ⟨sx, x1, x2⟩ := x
        obtain ⟨a1, a2, a3⟩ := ha
        simp only at a1 a2 a3 hss
        clear hc hx
        have C := mark_ref sx x1 x2 wr hss
        by_cases h0 : markE (sx, (x1, x2)) = 0
        · rw [h0] at C
          rw [if_neg (by simpa using h0)] at HD
          clear h0 hss
          by_cases hk0 : k = 0
          · subst hk0
            have HG2 : Hid (goesM (prvM l (0 + 1)) (l.drop (0 + 1)) = goesM none l) := by
              unfold Hid; rw [← HG.out, HD]; rfl
            clear HD HP
            simp only [Nat.zero_mul, Nat.add_zero] at a1 a2 a3
            go_wp2_with fail
            refine C.mono ?_
            rintro e w2 ⟨rfl, hb2⟩
            have HB2 : Hid (Below w.heap.size w w2) := bel HB.out hb2
            clear hb2 C a1 a2 a3
            go_wp2_with fail
            go_quiet (fail)
            go_wp2_with fail
            go_roundw
            case rel => exact ⟨0 + 1, by omega, by go_num, HG2, bel_drew HB2.out _⟩
            case measure => simp [intOf]; omega
          · obtain ⟨m, hm⟩ : ∃ m, m + 1 = k := ⟨k - 1, by omega⟩
            have hpm := HP.out m hm
            have HPV : Hid (prvM l k = some (l.getD m none1)) := by unfold Hid prvM; rw [if_neg hk0, show k - 1 = m by omega]
            rw [HG.out, HPV.out] at HD
            obtain ⟨y, hy⟩ : ∃ y, y = l.getD m none1 := ⟨_, rfl⟩
            rw [← hy] at HD hpm
            obtain ⟨sy, y1, y2⟩ := y
            obtain ⟨c1, c2, c3⟩ := hpm
            simp only at c1 c2 c3 HD
            have C2 := fun W => before_ref sy y1 y2 sx x1 x2 W
            have hkb : ((k : Int) == 0) = false := by rw [beq_eq_false_iff_ne]; omega
            have hkn : (k == 0) = false := by rw [beq_eq_false_iff_ne]; omega
            have hke : ¬ (k = 0) := hk0
            have hkd : decide (k = 0) = false := decide_eq_false hk0
            have hkm : IntKind.i64.wrap ((k : Int) - 1) = (m : Int) := by rw [show (k : Int) - 1 = (m : Int) by omega]; exact wrap_in (by omega) (by omega)
            have hmz : (m : Int) < n := by omega
            have HLT : Hid (b < wr.heap.size) := World.block_lt_of_cell? _ ⟨b, o + k * 3, none⟩ a1
            clear hy HPV HP hk0
            cases hq : mlt (sy, (y1, y2)) (sx, (x1, x2))
            · rw [hq] at C2
              have HQ : Hid (marksE l = 7) := by
                unfold Hid; rw [HE.out, HD, show okM (some (sy, (y1, y2))) (sx, (x1, x2)) = false from hq, if_pos rfl]
              clear hq HD
              go_wp2_with fail
              refine C.mono ?_
              rintro e w2 ⟨rfl, hb2⟩
              have HB2 : Hid (Below w.heap.size w w2) := bel HB.out hb2
              have e1 := keep_cell hb2 a1
              have e2 := keep_cell hb2 a2
              have e3 := keep_cell hb2 a3
              have f1 := keep_cell hb2 c1
              have f2 := keep_cell hb2 c2
              have f3 := keep_cell hb2 c3
              clear hb2 C a1 a2 a3 c1 c2 c3
              go_wp2_with fail
              go_region_held3 (fun W => W.cell? ⟨b, o + m * 3, none⟩ = some (.string sy) ∧ W.cell? ⟨b, o + m * 3 + 1, none⟩ = some (.int .i64 y1) ∧ W.cell? ⟨b, o + m * 3 + 2, none⟩ = some (.int .i64 y2) ∧ W.cell? ⟨b, o + k * 3, none⟩ = some (.string sx) ∧ W.cell? ⟨b, o + k * 3 + 1, none⟩ = some (.int .i64 x1) ∧ W.cell? ⟨b, o + k * 3 + 2, none⟩ = some (.int .i64 x2)) (first | (go_keep; done) | (refine ⟨keep_cell hb7 ?_, keep_cell hb7 ?_, keep_cell hb7 ?_, keep_cell hb7 ?_, keep_cell hb7 ?_, keep_cell hb7 ?_⟩ <;> (go_split_ands; assumption))) (first
                | (go_at_call 33; refine (C2 _).mono ?_; rintro e w7 ⟨rfl, hb7⟩; have HB7 : Hid (Below w.heap.size w w7) := bel HB2.out.drew hb7))
              all_goals
                go_wp2_with fail
                go_ret
                exact ⟨by rw [HQ.out]; rfl, HB7.out⟩
            · rw [hq] at C2
              have HG2 : Hid (goesM (prvM l (k + 1)) (l.drop (k + 1)) = goesM none l) := by
                unfold Hid; rw [HD, show okM (some (sy, (y1, y2))) (sx, (x1, x2)) = true from hq, if_neg (by decide)]
              clear hq HD
              go_wp2_with fail
              refine C.mono ?_
              rintro e w2 ⟨rfl, hb2⟩
              have HB2 : Hid (Below w.heap.size w w2) := bel HB.out hb2
              have e1 := keep_cell hb2 a1
              have e2 := keep_cell hb2 a2
              have e3 := keep_cell hb2 a3
              have f1 := keep_cell hb2 c1
              have f2 := keep_cell hb2 c2
              have f3 := keep_cell hb2 c3
              clear hb2 C a1 a2 a3 c1 c2 c3
              go_wp2_with fail
              go_region_held3 (fun W => W.cell? ⟨b, o + m * 3, none⟩ = some (.string sy) ∧ W.cell? ⟨b, o + m * 3 + 1, none⟩ = some (.int .i64 y1) ∧ W.cell? ⟨b, o + m * 3 + 2, none⟩ = some (.int .i64 y2) ∧ W.cell? ⟨b, o + k * 3, none⟩ = some (.string sx) ∧ W.cell? ⟨b, o + k * 3 + 1, none⟩ = some (.int .i64 x1) ∧ W.cell? ⟨b, o + k * 3 + 2, none⟩ = some (.int .i64 x2)) (first | (go_keep; done) | (refine ⟨keep_cell hb7 ?_, keep_cell hb7 ?_, keep_cell hb7 ?_, keep_cell hb7 ?_, keep_cell hb7 ?_, keep_cell hb7 ?_⟩ <;> (go_split_ands; assumption))) (first
                | (go_at_call 33; refine (C2 _).mono ?_; rintro e w7 ⟨rfl, hb7⟩; have HB7 : Hid (Below w.heap.size w w7) := bel HB2.out.drew hb7))
              all_goals
                go_wp2_with fail
                go_roundw
                case rel => exact ⟨k + 1, by omega, by go_num, HG2, HB7⟩
                case measure => simp [intOf]; omega
        · obtain ⟨q, hq⟩ : ∃ q, q = markE (sx, (x1, x2)) := ⟨_, rfl⟩
          have HQ : Hid (marksE l = q) := by
            unfold Hid; rw [HE.out, ← HG.out, HD, if_pos h0, hq]
          have hqb : (q != 0) = true := by rw [hq]; simpa using h0
          rw [← hq] at C
          clear HD h0 hss hq HP
          go_wp2_with fail
          refine C.mono ?_
          rintro e w2 ⟨rfl, hb2⟩
          have HB2 : Hid (Below w.heap.size w w2) := bel HB.out hb2
          clear hb2 C
          go_wp2_with fail
          go_ret
          exact ⟨by rw [HQ.out]; rfl, HB2.out⟩
      · obtain rfl : k = n := by omega
        have HZ : Hid (goesM none l = 0) := by
          unfold Hid; rw [← HG.out, List.drop_of_length_le (by rw [HL.out]; exact Nat.le_refl _)]; rfl
        go_wp2_with fail
        go_ret
        exact ⟨by rw [HE.out, HZ.out]; rfl, HB.out⟩

end Wb
end Go.Proofs.YtcmoajlcmeimiaaDoor
