import Derived.Test.YtgefpcchcegcpaaGreatDoorJ7
import Derived.Test.YtgefpcchcegcpaaGreatDoorK2
import Derived.Laws.StructEq
/- What the reference says of an op: Dot, Letter, Dots, Op. -/
namespace Go.Proofs.YtgefpcchcegcpaaGreatDoor
namespace Ob
set_option linter.unusedVariables false
open Go.ChangeShapes Go.WideShapes Go.ChangeAt Go.RowKit Cm Ka Kb Na Om Oa Oz Wp
open La (bel bel_drew errV_zero errV_ne own_ge own_grow own_below)

theorem less_ref (a1 a2 b1 b2 : Int) (w : World) :
    Calls Tryz.prog 73 #[.agg #[.int .i64 a1, .int .i64 a2], .agg #[.int .i64 b1, .int .i64 b2]] w fun e w' => e = .returned (.bool (dlt (a1, a2) (b1, b2))) ∧ Below w.heap.size w w' := by
  have HB : Hid (∀ O1 O2, Below w.heap.size w ((w.alloc O1).alloc O2)) := fun O1 O2 => ((Below.refl _ w).alloc (Nat.le_refl _) _).alloc (by simp) _
  have HD : Hid (dlt (a1, a2) (b1, b2) = (decide (a1 < b1) || (decide (a1 = b1) && decide (a2 < b2)))) := rfl
  by_cases h1 : a1 < b1
  · rw [HD.out, decide_eq_true h1]
    clear HD
    go_enter Tryz.func73, Tryz.ntmps73
    go_wp2
    go_ret
    exact ⟨rfl, HB.out _ _⟩
  · by_cases h2 : a1 = b1
    · subst h2
      by_cases h3 : a2 < b2
      · rw [HD.out, decide_eq_false h1, decide_eq_true rfl, decide_eq_true h3]
        clear HD
        go_enter Tryz.func73, Tryz.ntmps73
        go_wp2
        go_ret
        exact ⟨by first | rfl | (refine ret_bool ?_; simp; omega), HB.out _ _⟩
      · rw [HD.out, decide_eq_false h1, decide_eq_true rfl, decide_eq_false h3]
        clear HD
        go_enter Tryz.func73, Tryz.ntmps73
        go_wp2
        go_ret
        exact ⟨by first | rfl | (refine ret_bool ?_; simp; omega), HB.out _ _⟩
    · rw [HD.out, decide_eq_false h1, decide_eq_false h2]
      have h2b : (a1 == b1) = false := by simpa using h2
      clear HD
      go_enter Tryz.func73, Tryz.ntmps73
      go_wp2
      go_ret
      exact ⟨rfl, HB.out _ _⟩

theorem dot_ref (who m : Int) (w : World) :
    Calls Tryz.prog 49 #[.agg #[.int .i64 who, .int .i64 m]] w fun e w' => e = .returned (.int .i64 (dotE who m)) ∧ Below w.heap.size w w' := by
  go_enter Tryz.func49, Tryz.ntmps49
  go_wp2
  all_goals
    go_ret
    refine ⟨?_, (Below.refl _ w).alloc (Nat.le_refl _) _⟩
    unfold dotE
    first
      | (rw [if_pos (by omega)]; rfl)
      | (rw [if_neg (by omega)]; rfl)

def lawAt (t c : Int) (s : List Dt) : Int := if t = 1 ∧ isLetter c = false then 1 else if (t ≠ 1 ∧ c ≠ 0) ∨ (t ≠ 4 ∧ s ≠ []) then 3 else if 40 < s.length then 4 else dotsE s
theorem letter_ref (n : Int) (w : World) :
    Calls Tryz.prog 51 #[.int .i64 n] w fun e w' => e = .returned (.bool (isLetter n)) ∧ w' = w := by
  go_enter Tryz.func51, Tryz.ntmps51
  go_wp2
  all_goals
    go_ret
    exact ⟨ret_bool (by first | (simp [isLetter, *]; done) | (simp only [isLetter]; rw [decide_eq_false (by omega)]; rfl)), rfl⟩

set_option maxRecDepth 100000 in
set_option maxHeartbeats 2000000 in
theorem dots_ref (v : Value) (l : List Dt) (w : World) (hA : DtsAt w v l) (hn1 : l.length ≤ 40) :
    Calls Tryz.prog 52 #[v] w fun e w' => e = .returned (.int .i64 (dotsE l)) ∧ Below w.heap.size w w' := by
  obtain ⟨p, c, rfl, h, hc0, hcm, _⟩ := hA
  obtain ⟨n, hl⟩ : ∃ n, l.length = n := ⟨_, rfl⟩
  rw [hl] at hc0 hn1
  rw [hl]
  clear hc0 hcm
  have HL : Hid (l.length = n) := hl
  have HI : Hid (DotsIn w p l) := h
  clear hl h
  go_enter Tryz.func52, Tryz.ntmps52
  go_wp2
  go_loopw [3] (fun i wr => ∃ (k : Nat), k ≤ n ∧ i = .int .i64 k ∧ Hid (∀ j, j < k → dotE (l.getD j noneD).1 (l.getD j noneD).2 = 0) ∧ Hid (Below w.heap.size w wr)) (fun i _ => n - (intOf i).toNat)
  case atStart => exact ⟨0, by omega, rfl, fun j hj => absurd hj (by omega), Below.refl _ _⟩
  case round =>
    obtain ⟨k, hk, rfl, HG, HB⟩ := hrel
    by_cases hlt : k < n
    · have hltz : (k : Int) < n := by omega
      obtain ⟨b, o, rfl, hc⟩ := HI.out.some (by intro e; have := HL.out; rw [e] at this; simp at this; omega)
      have hkl : k < l.length := by rw [HL.out]; exact hlt
      have ha := (hc k hkl).below HB.out (hc k hkl).lt
      obtain ⟨x, hx⟩ : ∃ x, x = l.getD k noneD := ⟨_, rfl⟩
      rw [← hx] at ha
      have HX : Hid (x = l.getD k noneD) := hx
      obtain ⟨x1, x2⟩ := x
      obtain ⟨a1, a2⟩ := ha
      simp only at a1 a2
      clear hc hx
      have C := dot_ref x1 x2 wr
      by_cases h0 : dotE x1 x2 = 0
      · rw [h0] at C
        have HG2 : Hid (∀ j, j < k + 1 → dotE (l.getD j noneD).1 (l.getD j noneD).2 = 0) := by
          intro j hj
          rcases Nat.lt_succ_iff_lt_or_eq.1 hj with h | rfl
          · exact HG.out j h
          · rw [← HX.out]; exact h0
        clear h0
        go_wp2_with fail
        refine C.mono ?_
        rintro e w2 ⟨rfl, hb2⟩
        have HB2 : Hid (Below w.heap.size w w2) := bel HB.out hb2
        clear hb2 C a1 a2
        go_wp2_with fail
        go_roundw
        case rel => exact ⟨k + 1, by omega, by go_num, HG2, HB2⟩
        case measure => simp [intOf]; omega
      · obtain ⟨q, hq⟩ : ∃ q, q = dotE x1 x2 := ⟨_, rfl⟩
        have HQ : Hid (dotsE l = q) := by
          unfold Hid; rw [dotsE_fault hkl HG.out (by rw [← HX.out]; exact h0), ← HX.out, hq]
        have hqb : (q != 0) = true := by rw [hq]; simpa using h0
        rw [← hq] at C
        clear h0 hq
        go_wp2_with fail
        refine C.mono ?_
        rintro e w2 ⟨rfl, hb2⟩
        have HB2 : Hid (Below w.heap.size w w2) := bel HB.out hb2
        clear hb2 C
        go_wp2_with fail
        go_ret
        exact ⟨by rw [HQ.out]; rfl, HB2.out⟩
    · obtain rfl : k = n := by omega
      have HZ : Hid (∀ d ∈ l, dotE d.1 d.2 = 0) := all_zero (fun j hj => HG.out j (by rw [← HL.out]; exact hj))
      clear HG hlt
      go_wp2_with fail
      go_loopw [5] (fun i wr2 => ∃ (m : Nat), (m = 0 ∨ m + 1 ≤ k) ∧ i = .int .i64 ((m + 1 : Nat) : Int) ∧ Hid (∀ j, j < m → dlt (l.getD j noneD) (l.getD (j + 1) noneD) = true) ∧ Hid (Below w.heap.size w wr2)) (fun i _ => k + 1 - (intOf i).toNat)
      case atStart => exact ⟨0, Or.inl rfl, rfl, fun j hj => absurd hj (by omega), HB⟩
      case round =>
        clear HB
        obtain ⟨m, hm, rfl, HG, HB⟩ := hrel
        by_cases hlt : m + 1 < k
        · obtain ⟨j, hj⟩ : ∃ j : Nat, j = m + 1 := ⟨_, rfl⟩
          have hltz : (j : Int) < k := by omega
          obtain ⟨b, o, rfl, hc⟩ := HI.out.some (by intro e; have := HL.out; rw [e] at this; simp at this; omega)
          have hkl : m + 1 < l.length := by rw [HL.out]; exact hlt
          have ha := (hc (m + 1) hkl).below HB.out (hc (m + 1) hkl).lt
          have hb := (hc m (by omega)).below HB.out (hc m (by omega)).lt
          obtain ⟨x, hx⟩ : ∃ x, x = l.getD (m + 1) noneD := ⟨_, rfl⟩
          obtain ⟨y, hy⟩ : ∃ y, y = l.getD m noneD := ⟨_, rfl⟩
          rw [← hx, ← hj] at ha
          rw [← hy] at hb
          have HX : Hid (x = l.getD (m + 1) noneD) := hx
          have HY : Hid (y = l.getD m noneD) := hy
          obtain ⟨x1, x2⟩ := x
          obtain ⟨y1, y2⟩ := y
          obtain ⟨a1, a2⟩ := ha
          obtain ⟨c1, c2⟩ := hb
          simp only at a1 a2 c1 c2
          have C2 := fun W => less_ref y1 y2 x1 x2 W
          have hjm : IntKind.i64.wrap ((j : Int) - 1) = (m : Int) := by rw [show (j : Int) - 1 = (m : Int) by omega]; exact wrap_in (by omega) (by omega)
          have hmz : (m : Int) < k := by omega
          have HJ : Hid (j = m + 1) := hj
          rw [← hj]
          clear hc hx hy
          cases hq : dlt (y1, y2) (x1, x2)
          · rw [hq] at C2
            have HQ : Hid (dotsE l = 7) := dotsE_seven HZ.out hkl (by rw [← HX.out, ← HY.out]; exact hq)
            clear hq hj
            go_wp2_with fail
            go_region_held3 (fun W => W.cell? ⟨b, o + m * 2, none⟩ = some (.int .i64 y1) ∧ W.cell? ⟨b, o + m * 2 + 1, none⟩ = some (.int .i64 y2) ∧ W.cell? ⟨b, o + j * 2, none⟩ = some (.int .i64 x1) ∧ W.cell? ⟨b, o + j * 2 + 1, none⟩ = some (.int .i64 x2)) (first | (go_keep; done) | (refine ⟨keep_cell hb7 ?_, keep_cell hb7 ?_, keep_cell hb7 ?_, keep_cell hb7 ?_⟩ <;> (go_split_ands; assumption))) (first
              | (go_at_call 73; refine (C2 _).mono ?_; rintro e w7 ⟨rfl, hb7⟩; have HB7 : Hid (Below w.heap.size w w7) := bel HB.out.drew hb7))
            all_goals
              go_wp2_with fail
              go_ret
              exact ⟨by rw [HQ.out]; rfl, HB7.out⟩
          · rw [hq] at C2
            have HG2 : Hid (∀ i, i < m + 1 → dlt (l.getD i noneD) (l.getD (i + 1) noneD) = true) := by
              intro i hi
              rcases Nat.lt_succ_iff_lt_or_eq.1 hi with h | rfl
              · exact HG.out i h
              · rw [← HX.out, ← HY.out]; exact hq
            clear hq hj
            go_wp2_with fail
            go_region_held3 (fun W => W.cell? ⟨b, o + m * 2, none⟩ = some (.int .i64 y1) ∧ W.cell? ⟨b, o + m * 2 + 1, none⟩ = some (.int .i64 y2) ∧ W.cell? ⟨b, o + j * 2, none⟩ = some (.int .i64 x1) ∧ W.cell? ⟨b, o + j * 2 + 1, none⟩ = some (.int .i64 x2)) (first | (go_keep; done) | (refine ⟨keep_cell hb7 ?_, keep_cell hb7 ?_, keep_cell hb7 ?_, keep_cell hb7 ?_⟩ <;> (go_split_ands; assumption))) (first
              | (go_at_call 73; refine (C2 _).mono ?_; rintro e w7 ⟨rfl, hb7⟩; have HB7 : Hid (Below w.heap.size w w7) := bel HB.out.drew hb7))
            all_goals
              go_wp2_with fail
              go_roundw
              case rel => exact ⟨m + 1, Or.inr (by omega), by rw [HJ.out]; go_num, HG2, HB7⟩
              case measure => have := HJ.out; simp [intOf]; omega
        · have HQ : Hid (dotsE l = 0) := dotsE_ok HZ.out (fun i hi => HG.out i (by rw [HL.out] at hi; omega))
          obtain ⟨j, hj⟩ : ∃ j : Nat, j = m + 1 := ⟨_, rfl⟩
          have hltz : ¬ (j : Int) < k := by omega
          rw [← hj]
          clear hj hm
          go_wp2_with fail
          go_ret
          exact ⟨by rw [HQ.out]; rfl, HB.out⟩

set_option maxRecDepth 100000 in
set_option maxHeartbeats 4000000 in
theorem op_ref (a b t : Int) (p : ByteArray) (c : Int) (vs : Value) (s : List Dt) (w : World) (hp : p.size ≤ maxLen) (hd : DtsAt w vs s) :
    Calls Tryz.prog 32 #[.agg #[.int .i64 a, .int .i64 b, .int .i64 t, .string p, .int .i64 c, vs]] w fun e w' => e = .returned (.int .i64 (opE ((a, b), t, p, c, s))) ∧ Below w.heap.size w w' := by
  have HB1 : Hid (Below w.heap.size w (w.alloc (.cells #[.int .i64 a, .int .i64 b, .int .i64 t, .string p, .int .i64 c, vs] 34))) := (Below.refl _ w).alloc (Nat.le_refl _) _
  have H6 : Hid (Six (w.alloc (.cells #[.int .i64 a, .int .i64 b, .int .i64 t, .string p, .int .i64 c, vs] 34)) w.heap.size a b t p c vs) := six_new _ _ _ _ _ _ _ _
  have CD := fun W => dot_ref a b W
  have CP := fun W => place_ref p W hp
  have CL := fun W => letter_ref c W
  have CS : Hid (s.length ≤ 40 → ∀ W, Below w.heap.size w W → Calls Tryz.prog 52 #[vs] W fun e w' => e = .returned (.int .i64 (dotsE s)) ∧ Below W.heap.size W w') := fun h W hb => dots_ref vs s W (hd.below hb) h
  have HOE : Hid True := trivial
  obtain ⟨ps, cs, hvs, _, hsc, hcm, _⟩ := id hd
  obtain ⟨n, hn⟩ : ∃ n, n = s.length := ⟨_, rfl⟩
  have hnm : n ≤ maxLen := by omega
  unfold maxLen at hnm
  have HSN : Hid (s = [] ↔ n = 0) := by rw [hn]; exact List.length_eq_zero_iff.symm
  rw [← hn] at hvs CS
  have HLN : Hid (s.length = n) := hn.symm
  subst hvs
  clear hn hsc hcm
  by_cases h1 : dotE a b = 0
  case neg =>
    obtain ⟨q, hq⟩ : ∃ q, q = dotE a b := ⟨_, rfl⟩
    have hqb : (q == 0) = false := by rw [hq]; simpa using h1
    have hqn : (q != 0) = true := by rw [hq]; simpa using h1
    have HE : Hid (opE ((a, b), t, p, c, s) = q) := by
      unfold Hid opE; simp only
      rw [if_pos h1, hq]
    rw [← hq] at CD
    clear h1 hq CP CL CS
    clear hp hd HOE
    go_enter Tryz.func32, Tryz.ntmps32
    go_wp2_with fail
    refine (CD _).mono ?_
    rintro e w2 ⟨rfl, hb2⟩
    have HB2 : Hid (Below w.heap.size w w2) := bel HB1.out hb2
    obtain ⟨d0, d1, d2, d3, d4, d5⟩ := H6.out.below hb2
    clear hb2 CD
    go_wp2_with fail
    go_ret
    exact ⟨by rw [HE.out]; rfl, HB2.out⟩
  rw [h1] at CD
  by_cases h2 : t < 1 ∨ 4 < t
  · have HE : Hid (opE ((a, b), t, p, c, s) = 1) := by
      unfold Hid opE; simp only
      rw [if_neg (by simpa using h1), if_pos h2]
    clear h1 CP CL CS
    by_cases h3 : t < 1
    · clear h2
      clear hp hd HOE
      go_enter Tryz.func32, Tryz.ntmps32
      go_wp2_with fail
      refine (CD _).mono ?_
      rintro e w2 ⟨rfl, hb2⟩
      have HB2 : Hid (Below w.heap.size w w2) := bel HB1.out hb2
      obtain ⟨d0, d1, d2, d3, d4, d5⟩ := H6.out.below hb2
      clear hb2 CD
      go_wp2_with fail
      go_ret
      exact ⟨by rw [HE.out]; rfl, HB2.out⟩
    · have h4 : 4 < t := by omega
      clear h2
      clear hp hd HOE
      go_enter Tryz.func32, Tryz.ntmps32
      go_wp2_with fail
      refine (CD _).mono ?_
      rintro e w2 ⟨rfl, hb2⟩
      have HB2 : Hid (Below w.heap.size w w2) := bel HB1.out hb2
      obtain ⟨d0, d1, d2, d3, d4, d5⟩ := H6.out.below hb2
      clear hb2 CD
      go_wp2_with fail
      go_ret
      exact ⟨by rw [HE.out]; rfl, HB2.out⟩
  have h3 : ¬ t < 1 := by omega
  have h4 : ¬ 4 < t := by omega
  by_cases h5 : Pm.chk p.toList = 0
  case neg =>
    obtain ⟨q, hq⟩ : ∃ q, q = Pm.chk p.toList := ⟨_, rfl⟩
    have hqn : (q != 0) = true := by rw [hq]; simpa using h5
    have HE : Hid (opE ((a, b), t, p, c, s) = q) := by
      unfold Hid opE; simp only
      rw [if_neg (by simpa using h1), if_neg h2, if_pos h5, hq]
    rw [← hq] at CP
    clear h1 h2 h5 hq CL CS
    clear hp hd HOE
    go_enter Tryz.func32, Tryz.ntmps32
    go_wp2_with fail
    refine (CD _).mono ?_
    rintro e w2 ⟨rfl, hb2⟩
    have HB2 : Hid (Below w.heap.size w w2) := bel HB1.out hb2
    obtain ⟨d0, d1, d2, d3, d4, d5⟩ := H6.out.below hb2
    clear hb2 CD
    go_wp2_with fail
    refine (CP _).mono ?_
    rintro e w3 ⟨rfl, hw⟩
    have hw2 := hw.symm; subst hw2; clear hw CP
    go_wp2_with fail
    go_ret
    exact ⟨by rw [HE.out]; rfl, HB2.out⟩
  rw [h5] at CP
  have HL : Hid (opE ((a, b), t, p, c, s) = lawOf ((a, b), t, p, c, s)) := by
    unfold Hid opE; simp only
    rw [if_neg (by simpa using h1), if_neg h2, if_neg (by simpa using h5)]
  rw [HL.out]
  have HLW : Hid (lawOf ((a, b), t, p, c, s) = lawAt t c s) := rfl
  rw [HLW.out]
  clear h1 h2 h5 HL HLW
  by_cases t1 : t = 1
  · subst t1
    cases hl : isLetter c
    · rw [hl] at CL
      have HE : Hid (lawAt 1 c s = 1) := by
        unfold Hid lawAt; rw [if_pos ⟨rfl, hl⟩]
      rw [HE.out]
      clear HE hl CS
      clear hp hd HOE
      go_enter Tryz.func32, Tryz.ntmps32
      go_wp2_with fail
      refine (CD _).mono ?_
      rintro e w2 ⟨rfl, hb2⟩
      have HB2 : Hid (Below w.heap.size w w2) := bel HB1.out hb2
      obtain ⟨d0, d1, d2, d3, d4, d5⟩ := H6.out.below hb2
      clear hb2 CD
      go_wp2_with fail
      refine (CP _).mono ?_
      rintro e w3 ⟨rfl, hw⟩
      have hw2 := hw.symm; subst hw2; clear hw CP
      go_wp2_with fail
      refine (CL _).mono ?_
      rintro e w3 ⟨rfl, hw⟩
      have hw2 := hw.symm; subst hw2; clear hw CL
      go_wp2_with fail
      go_ret
      exact ⟨rfl, HB2.out⟩
    · rw [hl] at CL
      by_cases hs0 : n = 0
      · have HE : Hid (lawAt 1 c s = dotsE s) := by
          unfold Hid lawAt; rw [if_neg (fun e => by rw [hl] at e; exact absurd e.2 (by decide)), if_neg (fun e => by rcases e with ⟨e, _⟩ | ⟨_, e⟩; exact e rfl; exact e (HSN.out.2 hs0)), if_neg (by rw [HLN.out]; omega)]
        rw [HE.out]
        have CS2 : Hid (∀ W, Below w.heap.size w W → Calls Tryz.prog 52 #[.slice ps n cs] W fun e w' => e = .returned (.int .i64 (dotsE s)) ∧ Below W.heap.size W w') := CS.out (by omega)
        clear HE hl CS
        subst hs0
        clear hp hd HOE
        go_enter Tryz.func32, Tryz.ntmps32
        go_wp2_with fail
        refine (CD _).mono ?_
        rintro e w2 ⟨rfl, hb2⟩
        have HB2 : Hid (Below w.heap.size w w2) := bel HB1.out hb2
        obtain ⟨d0, d1, d2, d3, d4, d5⟩ := H6.out.below hb2
        clear hb2 CD
        go_wp2_with fail
        refine (CP _).mono ?_
        rintro e w3 ⟨rfl, hw⟩
        have hw2 := hw.symm; subst hw2; clear hw CP
        go_wp2_with fail
        refine (CL _).mono ?_
        rintro e w3 ⟨rfl, hw⟩
        have hw2 := hw.symm; subst hw2; clear hw CL
        go_wp2_with fail
        refine (CS2.out _ HB2.out).mono ?_
        rintro e w4 ⟨rfl, hb4⟩
        have HB4 : Hid (Below w.heap.size w w4) := bel HB2.out hb4
        clear hb4 CS2
        go_wp2_with fail
        go_ret
        exact ⟨rfl, HB4.out⟩
      · have HE : Hid (lawAt 1 c s = 3) := by
          unfold Hid lawAt; rw [if_neg (fun e => by rw [hl] at e; exact absurd e.2 (by decide)), if_pos (Or.inr ⟨by decide, fun e => hs0 (HSN.out.1 e)⟩)]
        rw [HE.out]
        have hz : (0 : Int) < n := by omega
        clear HE hl CS hs0
        clear hp hd HOE
        go_enter Tryz.func32, Tryz.ntmps32
        go_wp2_with fail
        refine (CD _).mono ?_
        rintro e w2 ⟨rfl, hb2⟩
        have HB2 : Hid (Below w.heap.size w w2) := bel HB1.out hb2
        obtain ⟨d0, d1, d2, d3, d4, d5⟩ := H6.out.below hb2
        clear hb2 CD
        go_wp2_with fail
        refine (CP _).mono ?_
        rintro e w3 ⟨rfl, hw⟩
        have hw2 := hw.symm; subst hw2; clear hw CP
        go_wp2_with fail
        refine (CL _).mono ?_
        rintro e w3 ⟨rfl, hw⟩
        have hw2 := hw.symm; subst hw2; clear hw CL
        go_wp2_with fail
        go_ret
        exact ⟨rfl, HB2.out⟩
  · have t1b : (t == 1) = false := by simpa using t1
    have t1n : (t != 1) = true := by simpa using t1
    by_cases hc : c = 0
    case neg =>
      have HE : Hid (lawAt t c s = 3) := by
        unfold Hid lawAt; rw [if_neg (fun e => t1 e.1), if_pos (Or.inl ⟨t1, hc⟩)]
      rw [HE.out]
      have hcn : (c != 0) = true := by simpa using hc
      clear HE CS hc t1
      clear hp hd HOE
      go_enter Tryz.func32, Tryz.ntmps32
      go_wp2_with fail
      refine (CD _).mono ?_
      rintro e w2 ⟨rfl, hb2⟩
      have HB2 : Hid (Below w.heap.size w w2) := bel HB1.out hb2
      obtain ⟨d0, d1, d2, d3, d4, d5⟩ := H6.out.below hb2
      clear hb2 CD
      go_wp2_with fail
      refine (CP _).mono ?_
      rintro e w3 ⟨rfl, hw⟩
      have hw2 := hw.symm; subst hw2; clear hw CP
      go_wp2_with fail
      refine (CL _).mono ?_
      rintro e w3 ⟨rfl, hw⟩
      have hw2 := hw.symm; subst hw2; clear hw CL
      go_wp2_with fail
      go_ret
      exact ⟨rfl, HB2.out⟩
    subst hc
    by_cases t4 : t = 4
    · subst t4
      by_cases h40 : 40 < n
      · have HE : Hid (lawAt 4 0 s = 4) := by
          unfold Hid lawAt; rw [if_neg (fun e => t1 e.1), if_neg (fun e => by rcases e with ⟨_, e⟩ | ⟨e, _⟩ <;> exact e rfl), if_pos (by rw [HLN.out]; exact h40)]
        rw [HE.out]
        have hz : (40 : Int) < n := by omega
        clear HE CS h40 t1 t1b t1n
        clear hp hd HOE
        go_enter Tryz.func32, Tryz.ntmps32
        go_wp2_with fail
        refine (CD _).mono ?_
        rintro e w2 ⟨rfl, hb2⟩
        have HB2 : Hid (Below w.heap.size w w2) := bel HB1.out hb2
        obtain ⟨d0, d1, d2, d3, d4, d5⟩ := H6.out.below hb2
        clear hb2 CD
        go_wp2_with fail
        refine (CP _).mono ?_
        rintro e w3 ⟨rfl, hw⟩
        have hw2 := hw.symm; subst hw2; clear hw CP
        go_wp2_with fail
        refine (CL _).mono ?_
        rintro e w3 ⟨rfl, hw⟩
        have hw2 := hw.symm; subst hw2; clear hw CL
        go_wp2_with fail
        go_ret
        exact ⟨rfl, HB2.out⟩
      · have HE : Hid (lawAt 4 0 s = dotsE s) := by
          unfold Hid lawAt; rw [if_neg (fun e => t1 e.1), if_neg (fun e => by rcases e with ⟨_, e⟩ | ⟨e, _⟩ <;> exact e rfl), if_neg (by rw [HLN.out]; exact h40)]
        rw [HE.out]
        have CS2 : Hid (∀ W, Below w.heap.size w W → Calls Tryz.prog 52 #[.slice ps n cs] W fun e w' => e = .returned (.int .i64 (dotsE s)) ∧ Below W.heap.size W w') := CS.out (by omega)
        have hz : ¬ (40 : Int) < n := by omega
        clear HE CS h40 t1 t1b t1n
        clear hp hd HOE
        go_enter Tryz.func32, Tryz.ntmps32
        go_wp2_with fail
        refine (CD _).mono ?_
        rintro e w2 ⟨rfl, hb2⟩
        have HB2 : Hid (Below w.heap.size w w2) := bel HB1.out hb2
        obtain ⟨d0, d1, d2, d3, d4, d5⟩ := H6.out.below hb2
        clear hb2 CD
        go_wp2_with fail
        refine (CP _).mono ?_
        rintro e w3 ⟨rfl, hw⟩
        have hw2 := hw.symm; subst hw2; clear hw CP
        go_wp2_with fail
        refine (CL _).mono ?_
        rintro e w3 ⟨rfl, hw⟩
        have hw2 := hw.symm; subst hw2; clear hw CL
        go_wp2_with fail
        refine (CS2.out _ HB2.out).mono ?_
        rintro e w4 ⟨rfl, hb4⟩
        have HB4 : Hid (Below w.heap.size w w4) := bel HB2.out hb4
        clear hb4 CS2
        go_wp2_with fail
        go_ret
        exact ⟨rfl, HB4.out⟩
    · have t4n : (t != 4) = true := by simpa using t4
      by_cases hs0 : n = 0
      · have HE : Hid (lawAt t 0 s = dotsE s) := by
          unfold Hid lawAt; rw [if_neg (fun e => t1 e.1), if_neg (fun e => by rcases e with ⟨_, e⟩ | ⟨_, e⟩; exact e rfl; exact e (HSN.out.2 hs0)), if_neg (by rw [HLN.out]; omega)]
        rw [HE.out]
        have CS2 : Hid (∀ W, Below w.heap.size w W → Calls Tryz.prog 52 #[.slice ps n cs] W fun e w' => e = .returned (.int .i64 (dotsE s)) ∧ Below W.heap.size W w') := CS.out (by omega)
        clear HE CS t1 t4
        subst hs0
        clear hp hd HOE
        go_enter Tryz.func32, Tryz.ntmps32
        go_wp2_with fail
        refine (CD _).mono ?_
        rintro e w2 ⟨rfl, hb2⟩
        have HB2 : Hid (Below w.heap.size w w2) := bel HB1.out hb2
        obtain ⟨d0, d1, d2, d3, d4, d5⟩ := H6.out.below hb2
        clear hb2 CD
        go_wp2_with fail
        refine (CP _).mono ?_
        rintro e w3 ⟨rfl, hw⟩
        have hw2 := hw.symm; subst hw2; clear hw CP
        go_wp2_with fail
        refine (CL _).mono ?_
        rintro e w3 ⟨rfl, hw⟩
        have hw2 := hw.symm; subst hw2; clear hw CL
        go_wp2_with fail
        refine (CS2.out _ HB2.out).mono ?_
        rintro e w4 ⟨rfl, hb4⟩
        have HB4 : Hid (Below w.heap.size w w4) := bel HB2.out hb4
        clear hb4 CS2
        go_wp2_with fail
        go_ret
        exact ⟨rfl, HB4.out⟩
      · have HE : Hid (lawAt t 0 s = 3) := by
          unfold Hid lawAt; rw [if_neg (fun e => t1 e.1), if_pos (Or.inr ⟨t4, fun e => hs0 (HSN.out.1 e)⟩)]
        rw [HE.out]
        have hz : (0 : Int) < n := by omega
        clear HE CS hs0 t1 t4
        clear hp hd HOE
        go_enter Tryz.func32, Tryz.ntmps32
        go_wp2_with fail
        refine (CD _).mono ?_
        rintro e w2 ⟨rfl, hb2⟩
        have HB2 : Hid (Below w.heap.size w w2) := bel HB1.out hb2
        obtain ⟨d0, d1, d2, d3, d4, d5⟩ := H6.out.below hb2
        clear hb2 CD
        go_wp2_with fail
        refine (CP _).mono ?_
        rintro e w3 ⟨rfl, hw⟩
        have hw2 := hw.symm; subst hw2; clear hw CP
        go_wp2_with fail
        refine (CL _).mono ?_
        rintro e w3 ⟨rfl, hw⟩
        have hw2 := hw.symm; subst hw2; clear hw CL
        go_wp2_with fail
        go_ret
        exact ⟨rfl, HB2.out⟩

end Ob
end Go.Proofs.YtgefpcchcegcpaaGreatDoor
/- When two ops, two rows of ops are the same. -/
namespace Go.Proofs.YtgefpcchcegcpaaGreatDoor
namespace Ol
set_option linter.unusedVariables false
open Go.ChangeShapes Go.WideShapes Go.ChangeAt Go.RowKit Cm Ka Kb Na Om Oa Oz Oc Og Oi
open La (bel bel_drew errV_zero errV_ne own_ge own_grow own_below)

theorem dot_same {n m a b : Int} : decide (((n, a) : Dt) = (m, b)) = (n == m && a == b) := by
  rw [Bool.eq_iff_iff]; simp
theorem eql_dot (n m a b : Int) (w : World) : (binOp .eql 31 (.agg #[.int .i64 n, .int .i64 a]) (.agg #[.int .i64 m, .int .i64 b])).run Tryz.prog w = .ok (.bool (decide (((n, a) : Dt) = (m, b)))) w := by
  have u3 := Tryz.underlying3
  have a3 := Tryz.isAgg3
  have z3 := Tryz.sizeOf3
  have hS : Tryz.prog.underlying 31 = some (.struct (Tryz.prog.fieldsOf 31)) := by kernel_rfl
  have hp : Tryz.prog.stoodInHeld 31 = false := by kernel_rfl
  rw [run_eql_struct, show (10000 : Nat) = 9999 + 1 from rfl, run_equalIn_agg w 9999 31 _ _ hS hp]
  simp only [Program.fieldsOf, Tryz.underlying31]
  rw [dot_same]
  go_simp
  by_cases h2 : n = m <;> by_cases h3 : a = b <;> simp [h2, h3]

end Ol
end Go.Proofs.YtgefpcchcegcpaaGreatDoor
