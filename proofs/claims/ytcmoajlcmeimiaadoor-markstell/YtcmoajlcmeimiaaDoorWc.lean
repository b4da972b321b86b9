/- What the reference says of dots: Dots. -/
import Derived.Test.YtcmoajlcmeimiaaDoorWb
import Derived.Test.YtcmoajlcmeimiaaDoorNj
namespace Go.Proofs.YtcmoajlcmeimiaaDoor
namespace Wc
set_option linter.unusedVariables false
open Go.ChangeShapes Go.WideShapes Go.ChangeAt Go.RowKit Cm Ka Kb Na Nb Nc Nd Nj Wp Wa Wb
open La (bel bel_drew errV_zero errV_ne own_ge own_grow own_below)

set_option maxRecDepth 100000 in
set_option maxHeartbeats 2000000 in
theorem dots_ref (v : Value) (l : List Dt) (w : World) (hA : DtsAt w v l) (hn1 : l.length ≤ 40) :
    Calls Tryd.prog 18 #[v] w fun e w' => e = .returned (.int .i64 (dotsE l)) ∧ Below w.heap.size w w' := by
  obtain ⟨p, c, rfl, h, hc0, hcm, _⟩ := hA
  obtain ⟨n, hl⟩ : ∃ n, l.length = n := ⟨_, rfl⟩
  rw [hl] at hc0 hn1
  rw [hl]
  clear hc0 hcm
  have HL : Hid (l.length = n) := hl
  have HI : Hid (DotsIn w p l) := h
  clear hl h
  go_enter Tryd.func18, Tryd.ntmps18
  go_wp2
  go_loopw [3] (fun i wr => ∃ (k : Nat), k ≤ n ∧ i = .int .i64 k ∧ Hid (∀ j, j < k → dotE (l.getD j noneD).1 (l.getD j noneD).2 = 0) ∧ Hid (Below w.heap.size w wr)) (fun i _ => n - (intOf i).toNat)
  case atStart => exact ⟨0, by omega, rfl, fun j hj => absurd hj (by omega), Below.refl _ _⟩
  case round =>
    obtain ⟨k, hk, rfl, HG, HB⟩ := hrel
    by_cases hlt : k < n
    · have hltz : (k : Int) < n := by omega
      obtain ⟨b, o, rfl, hc⟩ := HI.out.some (by intro e; have := HL.out; rw [e] at this; simp at this; omega)
      have hkl : k < l.length := by rw [HL.out]; exact hlt
      have ha := (hc k hkl).below HB.out (hc k hkl).lt
      obtain ⟨x, hx⟩ : ∃ x, x = l.getD k noneD := ⟨_, rfl⟩
      rw [← hx] at ha
      have HX : Hid (x = l.getD k noneD) := hx
      obtain ⟨x1, x2⟩ := x
      obtain ⟨a1, a2⟩ := ha
      simp only at a1 a2
      clear hc hx
      have C := dot_ref x1 x2 wr
      by_cases h0 : dotE x1 x2 = 0
      · rw [h0] at C
        have HG2 : Hid (∀ j, j < k + 1 → dotE (l.getD j noneD).1 (l.getD j noneD).2 = 0) := by
          intro j hj
          rcases Nat.lt_succ_iff_lt_or_eq.1 hj with h | rfl
          · exact HG.out j h
          · rw [← HX.out]; exact h0
        clear h0
        go_wp2_with fail
        refine C.mono ?_
        rintro e w2 ⟨rfl, hb2⟩
        have HB2 : Hid (Below w.heap.size w w2) := bel HB.out hb2
        clear hb2 C a1 a2
        go_wp2_with fail
        go_roundw
        case rel => exact ⟨k + 1, by omega, by go_num, HG2, HB2⟩
        case measure => simp [intOf]; omega
      · obtain ⟨q, hq⟩ : ∃ q, q = dotE x1 x2 := ⟨_, rfl⟩
        have HQ : Hid (dotsE l = q) := by
          unfold Hid; rw [dotsE_fault hkl HG.out (by rw [← HX.out]; exact h0), ← HX.out, hq]
        have hqb : (q != 0) = true := by rw [hq]; simpa using h0
        rw [← hq] at C
        clear h0 hq
        go_wp2_with fail
        refine C.mono ?_
        rintro e w2 ⟨rfl, hb2⟩
        have HB2 : Hid (Below w.heap.size w w2) := bel HB.out hb2
        clear hb2 C
        go_wp2_with fail
        go_ret
        exact ⟨by rw [HQ.out]; rfl, HB2.out⟩
    · obtain rfl : k = n := by omega
      have HZ : Hid (∀ d ∈ l, dotE d.1 d.2 = 0) := all_zero (fun j hj => HG.out j (by rw [← HL.out]; exact hj))
      clear HG hlt
      go_wp2_with fail
      go_loopw [5] (fun i wr2 => ∃ (m : Nat), (m = 0 ∨ m + 1 ≤ k) ∧ i = .int .i64 ((m + 1 : Nat) : Int) ∧ Hid (∀ j, j < m → dlt (l.getD j noneD) (l.getD (j + 1) noneD) = true) ∧ Hid (Below w.heap.size w wr2)) (fun i _ => k + 1 - (intOf i).toNat)
      case atStart => exact ⟨0, Or.inl rfl, rfl, fun j hj => absurd hj (by omega), HB⟩
      case round =>
        clear HB
        obtain ⟨m, hm, rfl, HG, HB⟩ := hrel
        by_cases hlt : m + 1 < k
        · obtain ⟨j, hj⟩ : ∃ j : Nat, j = m + 1 := ⟨_, rfl⟩
          have hltz : (j : Int) < k := by omega
          obtain ⟨b, o, rfl, hc⟩ := HI.out.some (by intro e; have := HL.out; rw [e] at this; simp at this; omega)
          have hkl : m + 1 < l.length := by rw [HL.out]; exact hlt
          have ha := (hc (m + 1) hkl).below HB.out (hc (m + 1) hkl).lt
          have hb := (hc m (by omega)).below HB.out (hc m (by omega)).lt
          obtain ⟨x, hx⟩ : ∃ x, x = l.getD (m + 1) noneD := ⟨_, rfl⟩
          obtain ⟨y, hy⟩ : ∃ y, y = l.getD m noneD := ⟨_, rfl⟩
          rw [← hx, ← hj] at ha
          rw [← hy] at hb
          have HX : Hid (x = l.getD (m + 1) noneD) := hx
          have HY : Hid (y = l.getD m noneD) := hy
          obtain ⟨x1, x2⟩ := x
          obtain ⟨y1, y2⟩ := y
          obtain ⟨a1, a2⟩ := ha
          obtain ⟨c1, c2⟩ := hb
          simp only at a1 a2 c1 c2
          have C2 := fun W => less_ref y1 y2 x1 x2 W
          have hjm : IntKind.i64.wrap ((j : Int) - 1) = (m : Int) := by rw [show (j : Int) - 1 = (m : Int) by omega]; exact wrap_in (by omega) (by omega)
          have hmz : (m : Int) < k := by omega
          have HJ : Hid (j = m + 1) := hj
          rw [← hj]
          clear hc hx hy
          cases hq : dlt (y1, y2) (x1, x2)
          · rw [hq] at C2
            have HQ : Hid (dotsE l = 7) := dotsE_seven HZ.out hkl (by rw [← HX.out, ← HY.out]; exact hq)
            clear hq hj
            go_wp2_with fail
            go_region_held3 (fun W => W.cell? ⟨b, o + m * 2, none⟩ = some (.int .i64 y1) ∧ W.cell? ⟨b, o + m * 2 + 1, none⟩ = some (.int .i64 y2) ∧ W.cell? ⟨b, o + j * 2, none⟩ = some (.int .i64 x1) ∧ W.cell? ⟨b, o + j * 2 + 1, none⟩ = some (.int .i64 x2)) (first | (go_keep; done) | (refine ⟨keep_cell hb7 ?_, keep_cell hb7 ?_, keep_cell hb7 ?_, keep_cell hb7 ?_⟩ <;> (go_split_ands; assumption))) (first
              | (go_at_call 43; refine (C2 _).mono ?_; rintro e w7 ⟨rfl, hb7⟩; have HB7 : Hid (Below w.heap.size w w7) := bel HB.out.drew hb7))
            all_goals
              go_wp2_with fail
              go_ret
              exact ⟨by rw [HQ.out]; rfl, HB7.out⟩
          · rw [hq] at C2
            have HG2 : Hid (∀ i, i < m + 1 → dlt (l.getD i noneD) (l.getD (i + 1) noneD) = true) := by
              intro i hi
              rcases Nat.lt_succ_iff_lt_or_eq.1 hi with h | rfl
              · exact HG.out i h
              · rw [← HX.out, ← HY.out]; exact hq
            clear hq hj
            go_wp2_with fail
            go_region_held3 (fun W => W.cell? ⟨b, o + m * 2, none⟩ = some (.int .i64 y1) ∧ W.cell? ⟨b, o + m * 2 + 1, none⟩ = some (.int .i64 y2) ∧ W.cell? ⟨b, o + j * 2, none⟩ = some (.int .i64 x1) ∧ W.cell? ⟨b, o + j * 2 + 1, none⟩ = some (.int .i64 x2)) (first | (go_keep; done) | (refine ⟨keep_cell hb7 ?_, keep_cell hb7 ?_, keep_cell hb7 ?_, keep_cell hb7 ?_⟩ <;> (go_split_ands; assumption))) (first
              | (go_at_call 43; refine (C2 _).mono ?_; rintro e w7 ⟨rfl, hb7⟩; have HB7 : Hid (Below w.heap.size w w7) := bel HB.out.drew hb7))
            all_goals
              go_wp2_with fail
              go_roundw
              case rel => exact ⟨m + 1, Or.inr (by omega), by rw [HJ.out]; go_num, HG2, HB7⟩
              case measure => have := HJ.out; simp [intOf]; omega
        · have HQ : Hid (dotsE l = 0) := dotsE_ok HZ.out (fun i hi => HG.out i (by rw [HL.out] at hi; omega))
          obtain ⟨j, hj⟩ : ∃ j : Nat, j = m + 1 := ⟨_, rfl⟩
          have hltz : ¬ (j : Int) < k := by omega
          rw [← hj]
          clear hj hm
          go_wp2_with fail
          go_ret
          exact ⟨by rw [HQ.out]; rfl, HB.out⟩

end Wc
end Go.Proofs.YtcmoajlcmeimiaaDoor
