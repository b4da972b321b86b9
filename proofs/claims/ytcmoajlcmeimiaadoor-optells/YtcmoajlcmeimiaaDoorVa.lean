/- What the packages below op answer to it: dot.Check, book.IsLetter, marks.CheckSeen. -/
import Derived.Test.YtcmoajlcmeimiaaDoorOi
import Derived.Deep.RegionHeld3
import Derived.Deep.QuietTactic
import Derived.BigQuiet
namespace Go.Proofs.YtcmoajlcmeimiaaDoor
namespace Va
set_option linter.unusedVariables false
open Go.ChangeShapes Go.WideShapes Go.ChangeAt Go.RowKit Cm Ka Kb Na Om Oa Oz Oc Og Oi
open La (bel bel_drew errV_zero errV_ne own_ge own_grow own_below)

/- below: -1; the same: 0; above: 1 -/
def icmp (a b : Int) : Int := if a < b then -1 else if b < a then 1 else 0
def or2 (a b : Int) : Int := if a = 0 then b else a
theorem icmp_lt {a b : Int} : icmp a b < 0 ↔ a < b := by
  unfold icmp
  split
  · constructor <;> intro h <;> omega
  · split
    · constructor <;> intro h <;> omega
    · constructor <;> intro h <;> omega
theorem icmp_eq {a b : Int} : icmp a b = 0 ↔ a = b := by
  unfold icmp
  split
  · constructor <;> intro h <;> omega
  · split
    · constructor <;> intro h <;> omega
    · constructor <;> intro h <;> omega
theorem or2_lt {a b : Int} : or2 a b < 0 ↔ a < 0 ∨ (a = 0 ∧ b < 0) := by
  unfold or2
  split <;> omega
theorem or2_eq {a b : Int} : or2 a b = 0 ↔ a = 0 ∧ b = 0 := by
  unfold or2
  split <;> omega
def dcmp (a b : Dt) : Int := or2 (icmp a.1 b.1) (icmp a.2 b.2)
theorem dcmp_lt {a b : Dt} : dcmp a b < 0 ↔ dlt a b = true := by
  unfold dcmp dlt
  rw [or2_lt, icmp_lt, icmp_eq, icmp_lt]
  simp
theorem dcmp_eq {a b : Dt} : dcmp a b = 0 ↔ a = b := by
  unfold dcmp
  rw [or2_eq, icmp_eq, icmp_eq]
  obtain ⟨a1, a2⟩ := a
  obtain ⟨b1, b2⟩ := b
  simp
theorem isNaN_any (a : Int) (w : World) :
    Calls Tryd.prog 91 #[.int .i64 a] w fun e w' => e = .returned (.bool false) ∧ w' = w := by
  go_enter Tryd.func91, Tryd.ntmps91
  go_wp2
  go_ret
  exact ⟨by first | rfl | simp, rfl⟩
theorem icompare_any (a b : Int) (w : World) :
    Calls Tryd.prog 85 #[.int .i64 a, .int .i64 b] w fun e w' => e = .returned (.int .i64 (icmp a b)) ∧ w' = w := by
  have H : Hid (icmp a b = if a < b then -1 else if b < a then 1 else 0) := rfl
  go_enter Tryd.func85, Tryd.ntmps85
  go_wp2_with (go_at_call 91; refine (isNaN_any _ _).mono ?_; rintro e w' ⟨rfl, hw⟩; have hw2 := hw.symm; subst hw2; clear hw)
  all_goals
    go_ret
    refine ⟨?_, rfl⟩
    rw [H.out]
    first
      | (rw [if_pos (by omega)]; rfl)
      | (rw [if_neg (by omega), if_pos (by omega)]; rfl)
      | (rw [if_neg (by omega), if_neg (by omega)]; rfl)
theorem or_any (g : Nat) (a b : Int) (w : World) (h0 : w.cell? ⟨g, 0, none⟩ = some (.int .i64 a)) (h1 : w.cell? ⟨g, 1, none⟩ = some (.int .i64 b)) :
    Calls Tryd.prog 65 #[.slice (some ⟨g, 0, none⟩) 2 2] w fun e w' => e = .returned (.int .i64 (or2 a b)) ∧ w' = w := by
  have H : Hid (or2 a b = if a = 0 then b else a) := rfl
  go_enter Tryd.func65, Tryd.ntmps65
  go_wp2
  go_loop [5, 8] (fun _ i => ∃ (k : Nat), k ≤ 2 ∧ i = .int .i64 k ∧ Hid ((1 ≤ k → a = 0) ∧ (2 ≤ k → b = 0))) (fun _ i => 2 - (intOf i).toNat)
  case atStart => exact ⟨0, by omega, rfl, ⟨fun h => by omega, fun h => by omega⟩⟩
  case round =>
    obtain ⟨k, hk, rfl, HK⟩ := hrel
    have hk3 : k = 0 ∨ k = 1 ∨ k = 2 := by omega
    rcases hk3 with rfl | rfl | rfl
    · by_cases ha : a = 0
      · subst ha
        go_wp2_with fail
        go_round
        case rel => exact ⟨1, by omega, by go_num, ⟨fun _ => by first | rfl | trivial, fun h => by omega⟩⟩
        case measure => simp [intOf]
      · have hab : (a != 0) = true := by simpa using ha
        have HR : Hid (or2 a b = a) := by unfold Hid; rw [H.out, if_neg ha]
        clear ha
        go_wp2_with fail
        go_ret
        exact ⟨by rw [HR.out]; rfl, rfl⟩
    · obtain rfl := HK.out.1 (by omega)
      by_cases hb : b = 0
      · subst hb
        go_wp2_with fail
        go_round
        case rel => exact ⟨2, by omega, by go_num, ⟨fun _ => by first | rfl | trivial, fun _ => by first | rfl | trivial⟩⟩
        case measure => simp [intOf]
      · have hbb : (b != 0) = true := by simpa using hb
        have HR : Hid (or2 0 b = b) := by unfold Hid; rw [H.out, if_pos rfl]
        clear hb
        go_wp2_with fail
        go_ret
        exact ⟨by rw [HR.out]; rfl, rfl⟩
    · obtain rfl := HK.out.1 (by omega)
      obtain rfl := HK.out.2 (by omega)
      go_wp2_with fail
      go_ret
      exact ⟨by rw [H.out]; rfl, rfl⟩

/- what a list of two ints holds that has just been laid -/
theorem or_laid (a b : Int) (W : World) (n : Nat) (t : TypeId) (hn : n = W.heap.size) :
    Calls Tryd.prog 65 #[.slice (some ⟨n, 0, none⟩) 2 2] (W.alloc (.cells #[.int .i64 a, .int .i64 b] t)).drew fun e w' => e = .returned (.int .i64 (or2 a b)) ∧ w' = (W.alloc (.cells #[.int .i64 a, .int .i64 b] t)).drew := by
  subst hn
  have hg : (W.alloc (.cells #[.int .i64 a, .int .i64 b] t)).drew.heap[W.heap.size]? = some (.cells #[.int .i64 a, .int .i64 b] t) := heap_alloc_new W (.cells #[.int .i64 a, .int .i64 b] t)
  exact or_any W.heap.size a b _ (by simp only [World.cell?, hg]; rfl) (by simp only [World.cell?, hg]; rfl)

set_option maxHeartbeats 1000000 in
theorem compareDots_any (a1 a2 b1 b2 : Int) (w : World) :
    Calls Tryd.prog 67 #[.agg #[.int .i64 a1, .int .i64 a2], .agg #[.int .i64 b1, .int .i64 b2]] w fun e w' => e = .returned (.int .i64 (dcmp (a1, a2) (b1, b2))) ∧ Below w.heap.size w w' := by
  have HD : Hid (dcmp (a1, a2) (b1, b2) = or2 (icmp a1 b1) (icmp a2 b2)) := rfl
  have HB : Hid (∀ O1 O2 O3, Below w.heap.size w (((w.alloc O1).alloc O2).alloc O3).drew) := fun O1 O2 O3 => ((((Below.refl _ w).alloc (Nat.le_refl _) O1).alloc (by simp) O2).alloc (by simp; omega) O3).drew
  rw [HD.out]
  clear HD
  go_enter Tryd.func67, Tryd.ntmps67
  go_wp2_with fail
  go_region_held3 (fun W => W.cell? ⟨w.heap.size, 0, none⟩ = some (.int .i64 a1) ∧ W.cell? ⟨w.heap.size, 1, none⟩ = some (.int .i64 a2) ∧ W.cell? ⟨w.heap.size + 1, 0, none⟩ = some (.int .i64 b1) ∧ W.cell? ⟨w.heap.size + 1, 1, none⟩ = some (.int .i64 b2)) (go_keep) (first
    | (go_at_call 85; refine (icompare_any _ _ _).mono ?_; rintro e w7 ⟨rfl, hw⟩; have hw2 := hw.symm; subst hw2; clear hw)
    | (go_at_call 65; refine (or_laid (icmp a1 b1) (icmp a2 b2) _ _ _ ?_).mono ?_; (simp); rintro e w7 ⟨rfl, hw⟩; have hw2 := hw.symm; subst hw2; clear hw))
  all_goals
    go_wp2_with fail
    go_ret
    exact ⟨rfl, HB.out _ _ _⟩

theorem dotCheck_any (who m : Int) (w : World) :
    Calls Tryd.prog 50 #[.agg #[.int .i64 who, .int .i64 m]] w fun e w' => e = .returned (errV (dotE who m)) ∧ Below w.heap.size w w' := by
  go_enter Tryd.func50, Tryd.ntmps50
  go_wp2
  all_goals
    go_ret
    refine ⟨?_, (Below.refl _ w).alloc (Nat.le_refl _) _⟩
    unfold dotE
    first
      | (rw [if_pos (by omega)]; rfl)
      | (rw [if_neg (by omega)]; rfl)

/- what is asked of the dots that a join saw -/
def sawE (l : List Dt) : Int := if 40 < l.length then 4 else dotsE l
set_option maxRecDepth 100000 in
set_option maxHeartbeats 2000000 in
theorem checkSeen_any (v : Value) (l : List Dt) (w : World) (hA : DtsAt w v l) :
    Calls Tryd.prog 45 #[v] w fun e w' => e = .returned (errV (sawE l)) ∧ Below w.heap.size w w' := by
  obtain ⟨p, c, rfl, h, hc0, hcm, _⟩ := hA
  obtain ⟨n, hl⟩ : ∃ n, l.length = n := ⟨_, rfl⟩
  rw [hl] at hc0
  rw [hl]
  by_cases h40 : 40 < n
  · have HE : Hid (sawE l = 4) := by unfold Hid sawE; rw [hl, if_pos h40]
    have hz : (40 : Int) < n := by omega
    clear hl h hc0 hcm
    go_enter Tryd.func45, Tryd.ntmps45
    go_wp2
    go_ret
    exact ⟨by rw [HE.out]; rfl, Below.refl _ _⟩
  have HE : Hid (sawE l = dotsE l) := by unfold Hid sawE; rw [hl, if_neg h40]
  have hz : ¬ (40 : Int) < n := by omega
  clear hc0 hcm
  have HL : Hid (l.length = n) := hl
  have HI : Hid (DotsIn w p l) := h
  clear hl h
  go_enter Tryd.func45, Tryd.ntmps45
  go_wp2
  go_loopw [13] (fun i wr => ∃ (k : Nat), k ≤ n ∧ i = .int .i64 k ∧ Hid (∀ j, j < k → dotE (l.getD j noneD).1 (l.getD j noneD).2 = 0) ∧ Hid (Below w.heap.size w wr)) (fun i _ => n - (intOf i).toNat)
  case atStart => exact ⟨0, by omega, rfl, fun j hj => absurd hj (by omega), Below.refl _ _⟩
  case round =>
    obtain ⟨k, hk, rfl, HG, HB⟩ := hrel
    by_cases hlt : k < n
    · have hltz : (k : Int) < n := by omega
      obtain ⟨b, o, rfl, hc⟩ := HI.out.some (by intro e; have := HL.out; rw [e] at this; simp at this; omega)
      have hkl : k < l.length := by rw [HL.out]; exact hlt
      have ha := (hc k hkl).below HB.out (hc k hkl).lt
      obtain ⟨x, hx⟩ : ∃ x, x = l.getD k noneD := ⟨_, rfl⟩
      rw [← hx] at ha
      have HX : Hid (x = l.getD k noneD) := hx
      obtain ⟨x1, x2⟩ := x
      obtain ⟨a1, a2⟩ := ha
      simp only at a1 a2
      clear hc hx
      have C := dotCheck_any x1 x2 (wr.alloc (.cells #[.int .i64 x1, .int .i64 x2] 24))
      by_cases h0 : dotE x1 x2 = 0
      · rw [h0, errV_zero] at C
        have HG2 : Hid (∀ j, j < k + 1 → dotE (l.getD j noneD).1 (l.getD j noneD).2 = 0) := by
          intro j hj
          rcases Nat.lt_succ_iff_lt_or_eq.1 hj with h | rfl
          · exact HG.out j h
          · rw [← HX.out]; exact h0
        clear h0
        go_wp2_with fail
        refine C.mono ?_
        rintro e w2 ⟨rfl, hb2⟩
        have HB2 : Hid (Below w.heap.size w w2) := bel_new HB.out hb2
        clear hb2 C a1 a2
        go_wp2_with fail
        go_roundw
        case rel => exact ⟨k + 1, by omega, by go_num, HG2, HB2⟩
        case measure => simp [intOf]; omega
      · obtain ⟨q, hq⟩ : ∃ q, q = dotE x1 x2 := ⟨_, rfl⟩
        have HQ : Hid (errV (sawE l) = .iface 74 (.int .i64 q)) := by
          unfold Hid; rw [HE.out, dotsE_fault hkl HG.out (by rw [← HX.out]; exact h0), ← HX.out, hq, errV_ne h0]
        rw [errV_ne h0, ← hq] at C
        clear h0 hq
        go_wp2_with fail
        refine C.mono ?_
        rintro e w2 ⟨rfl, hb2⟩
        have HB2 : Hid (Below w.heap.size w w2) := bel_new HB.out hb2
        clear hb2 C
        go_wp2_with fail
        go_ret
        exact ⟨by rw [HQ.out]; rfl, HB2.out⟩
    · obtain rfl : k = n := by omega
      have HZ : Hid (∀ d ∈ l, dotE d.1 d.2 = 0) := all_zero (fun j hj => HG.out j (by rw [← HL.out]; exact hj))
      clear HG hlt
      go_wp2_with fail
      go_loopw [6] (fun i wr2 => ∃ (m : Nat), (m = 0 ∨ m + 1 ≤ k) ∧ i = .int .i64 ((m + 1 : Nat) : Int) ∧ Hid (∀ j, j < m → dlt (l.getD j noneD) (l.getD (j + 1) noneD) = true) ∧ Hid (Below w.heap.size w wr2)) (fun i _ => k + 1 - (intOf i).toNat)
      case atStart => exact ⟨0, Or.inl rfl, rfl, fun j hj => absurd hj (by omega), HB⟩
      case round =>
        clear HB
        obtain ⟨m, hm, rfl, HG, HB⟩ := hrel
        by_cases hlt : m + 1 < k
        · obtain ⟨j, hj⟩ : ∃ j : Nat, j = m + 1 := ⟨_, rfl⟩
          have hltz : (j : Int) < k := by omega
          obtain ⟨b, o, rfl, hc⟩ := HI.out.some (by intro e; have := HL.out; rw [e] at this; simp at this; omega)
          have hkl : m + 1 < l.length := by rw [HL.out]; exact hlt
          have ha := (hc (m + 1) hkl).below HB.out (hc (m + 1) hkl).lt
          have hb := (hc m (by omega)).below HB.out (hc m (by omega)).lt
          obtain ⟨x, hx⟩ : ∃ x, x = l.getD (m + 1) noneD := ⟨_, rfl⟩
          obtain ⟨y, hy⟩ : ∃ y, y = l.getD m noneD := ⟨_, rfl⟩
          rw [← hx, ← hj] at ha
          rw [← hy] at hb
          have HX : Hid (x = l.getD (m + 1) noneD) := hx
          have HY : Hid (y = l.getD m noneD) := hy
          obtain ⟨x1, x2⟩ := x
          obtain ⟨y1, y2⟩ := y
          obtain ⟨a1, a2⟩ := ha
          obtain ⟨c1, c2⟩ := hb
          simp only at a1 a2 c1 c2
          have HQL : Hid (dcmp (y1, y2) (x1, x2) < 0 ↔ dlt (y1, y2) (x1, x2) = true) := dcmp_lt
          obtain ⟨q, hq⟩ : ∃ q, q = dcmp (y1, y2) (x1, x2) := ⟨_, rfl⟩
          have C2 := fun W => compareDots_any y1 y2 x1 x2 W
          rw [← hq] at C2 HQL
          have hjm : IntKind.i64.wrap ((j : Int) - 1) = (m : Int) := by rw [show (j : Int) - 1 = (m : Int) by omega]; exact wrap_in (by omega) (by omega)
          have hmz : (m : Int) < k := by omega
          have HJ : Hid (j = m + 1) := hj
          rw [← hj]
          clear hc hx hy hq
          by_cases hq0 : 0 ≤ q
          · have HQ : Hid (errV (sawE l) = .iface 74 (.int .i64 7)) := by
              have h9 : dlt (y1, y2) (x1, x2) = false := by
                cases h8 : dlt (y1, y2) (x1, x2)
                · rfl
                · exact absurd (HQL.out.2 h8) (by omega)
              unfold Hid; rw [HE.out, dotsE_seven HZ.out hkl (by rw [← HX.out, ← HY.out]; exact h9)]; rfl
            clear hj HQL
            go_wp2_with fail
            go_region_held3 (fun W => W.cell? ⟨b, o + m * 2, none⟩ = some (.int .i64 y1) ∧ W.cell? ⟨b, o + m * 2 + 1, none⟩ = some (.int .i64 y2) ∧ W.cell? ⟨b, o + j * 2, none⟩ = some (.int .i64 x1) ∧ W.cell? ⟨b, o + j * 2 + 1, none⟩ = some (.int .i64 x2)) (first | (go_keep; done) | (refine ⟨keep_cell hb7 ?_, keep_cell hb7 ?_, keep_cell hb7 ?_, keep_cell hb7 ?_⟩ <;> (go_split_ands; assumption))) (first
              | (go_at_call 67; refine (C2 _).mono ?_; rintro e w7 ⟨rfl, hb7⟩; have HB7 : Hid (Below w.heap.size w w7) := bel HB.out.drew hb7))
            all_goals
              go_wp2_with fail
              go_ret
              exact ⟨by rw [HQ.out]; rfl, HB7.out⟩
          · have h9 : dlt (y1, y2) (x1, x2) = true := HQL.out.1 (by omega)
            have HG2 : Hid (∀ i, i < m + 1 → dlt (l.getD i noneD) (l.getD (i + 1) noneD) = true) := by
              intro i hi
              rcases Nat.lt_succ_iff_lt_or_eq.1 hi with h | rfl
              · exact HG.out i h
              · rw [← HX.out, ← HY.out]; exact h9
            clear h9 hj HQL
            go_wp2_with fail
            go_region_held3 (fun W => W.cell? ⟨b, o + m * 2, none⟩ = some (.int .i64 y1) ∧ W.cell? ⟨b, o + m * 2 + 1, none⟩ = some (.int .i64 y2) ∧ W.cell? ⟨b, o + j * 2, none⟩ = some (.int .i64 x1) ∧ W.cell? ⟨b, o + j * 2 + 1, none⟩ = some (.int .i64 x2)) (first | (go_keep; done) | (refine ⟨keep_cell hb7 ?_, keep_cell hb7 ?_, keep_cell hb7 ?_, keep_cell hb7 ?_⟩ <;> (go_split_ands; assumption))) (first
              | (go_at_call 67; refine (C2 _).mono ?_; rintro e w7 ⟨rfl, hb7⟩; have HB7 : Hid (Below w.heap.size w w7) := bel HB.out.drew hb7))
            all_goals
              go_wp2_with fail
              go_roundw
              case rel => exact ⟨m + 1, Or.inr (by omega), by rw [HJ.out]; go_num, HG2, HB7⟩
              case measure => have := HJ.out; simp [intOf]; omega
        · have HQ : Hid (errV (sawE l) = .nilIface) := by
            unfold Hid; rw [HE.out, dotsE_ok HZ.out (fun i hi => HG.out i (by rw [HL.out] at hi; omega))]; exact errV_zero
          obtain ⟨j, hj⟩ : ∃ j : Nat, j = m + 1 := ⟨_, rfl⟩
          have hltz : ¬ (j : Int) < k := by omega
          rw [← hj]
          clear hj hm
          go_wp2_with fail
          go_ret
          exact ⟨by rw [HQ.out]; rfl, HB.out⟩

theorem isLetter_any (n : Int) (w : World) :
    Calls Tryd.prog 74 #[.int .i64 n] w fun e w' => e = .returned (.bool (isLetter n)) ∧ w' = w := by
  go_enter Tryd.func74, Tryd.ntmps74
  go_wp2
  all_goals
    go_ret
    exact ⟨ret_bool (by first | (simp [isLetter, *]; done) | (simp only [isLetter]; rw [decide_eq_false (by omega)]; rfl)), rfl⟩


end Va
end Go.Proofs.YtcmoajlcmeimiaaDoor
