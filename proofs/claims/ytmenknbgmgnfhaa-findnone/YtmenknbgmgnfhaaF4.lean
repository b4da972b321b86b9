/- Not there, not found: the walk. -/
import Derived.Test.YtmenknbgmgnfhaaF3
namespace Go.Proofs.Ytmenknbgmgnfhaa
namespace F4
set_option linter.unusedVariables false
set_option linter.unusedSimpArgs false
open Go.ChangeShapes Go.WideShapes Go.ChangeAt Go.RowKit Ka Kb Fi F1 Fnn F2 Fr F3

theorem own_shape {w : World} {base : Nat} {t : TypeId} {v : Value} {n : Nat} {xs : List Value} (h : w.ownsRow base t 1 v n xs) : ∃ p c, v = .slice p n c := by
  rcases h.2 with ⟨e, e0⟩ | ⟨g, cap, cur, h1, _⟩
  · exact ⟨none, 0, by rw [e, e0]⟩
  · exact ⟨_, _, h1⟩
theorem bel {w w1 w2 : World} (h1 : Below w.heap.size w w1) (h2 : Below w1.heap.size w1 w2) : Below w.heap.size w w2 := h1.trans (h2.mono h1.size)
/- the first call -/
theorem two_words (w : World) : Calls Try.prog 10 #[.string ⟨#[32, 97, 32, 32, 98, 32]⟩] w fun e w' => ∃ q c, e = .returned (.tuple #[.slice q 2 c, .nilIface]) ∧ Hid (Below w.heap.size w w') := by
  refine (words_is ⟨#[32, 97, 32, 32, 98, 32]⟩ w (by decide)).mono ?_
  rintro e w' ⟨v, ws, rfl, hws, ho, hb⟩
  have h2 : ws.length = 2 := by
    have h1 := congrArg List.length hws
    rw [List.length_map] at h1
    rw [h1, ByteArray.toList_eq]; decide
  rw [h2] at ho
  obtain ⟨q, c, rfl⟩ := own_shape ho
  exact ⟨q, c, rfl, hb⟩
/- All of a part -/
theorem all_slice (t p : ByteArray) (w : World) (hM : ML w) (ht3 : t.size ≤ 300) (hp2 : p.size ≤ 200) (hp0 : p.size ≠ 0) :
    Calls Try.prog 11 #[.string t, .string p] w fun e w' => ∃ q n c, e = .returned (.tuple #[.slice q n c, .nilIface]) ∧ Hid (t.size < p.size → n = 0) ∧ Hid (Below w.heap.size w w') := by
  refine (all_is t p w hM ht3 hp2 hp0).mono ?_
  rintro e w' ⟨v, rfl, ho, hb⟩
  obtain ⟨q, c, rfl⟩ := own_shape ho
  refine ⟨q, _, c, rfl, fun hl => ?_, hb⟩
  rw [all_short (by rw [len_eq, len_eq]; exact hl)]; rfl
theorem all_no (t p : ByteArray) (w : World) (hts : t.size ≤ maxLen) (hps : p.size ≤ maxLen) (h : allE t p ≠ 0) :
    Calls Try.prog 11 #[.string t, .string p] w fun e w' => ∃ k : Int, e = .returned (.tuple #[.slice none 0 0, .iface 42 (.int .i64 k)]) ∧ Hid (Below w.heap.size w w') := by
  unfold allE at h
  by_cases h1 : 300 < t.size ∨ 200 < p.size
  · refine (all_full t p w hts hps h1).mono ?_
    rintro e w' ⟨rfl, rfl⟩
    exact ⟨4, rfl, Below.refl _ _⟩
  · by_cases h2 : p.size = 0
    · obtain rfl := nil_of h2
      refine (all_empty t w (by omega)).mono ?_
      rintro e w' ⟨rfl, rfl⟩
      exact ⟨3, rfl, Below.refl _ _⟩
    · rw [if_neg h1, if_neg h2] at h; exact absurd rfl h
theorem all_itself (t : ByteArray) (w : World) (hM : ML w) (ht2 : t.size ≤ 200) (ht0 : t.size ≠ 0) :
    Calls Try.prog 11 #[.string t, .string t] w fun e w' => ∃ g c, e = .returned (.tuple #[.slice (some ⟨g, 0, none⟩) 1 c, .nilIface]) ∧ w'.cell? ⟨g, 0, none⟩ = some (.int .i64 0) ∧ Hid (Below w.heap.size w w') := by
  refine (all_is t t w hM (by omega) ht2 ht0).mono ?_
  rintro e w' ⟨v, rfl, ho, hb⟩
  rw [all_self (fun e => ht0 (by rw [← len_eq, e]; rfl))] at ho
  obtain ⟨g, cap, rfl, hc⟩ := own_cells ho (by decide)
  have := hc 0 (.int .i64 0) rfl
  rw [Nat.zero_add] at this
  exact ⟨g, cap, rfl, this, hb⟩

set_option maxRecDepth 100000 in
set_option maxHeartbeats 2000000 in
theorem walk (t p : ByteArray) (w : World) (ht : t.size ≤ maxLen) (hp : p.size ≤ maxLen) (hM : ML w) :
    Calls Try.prog 5 #[.string t, .string p] w fun e w' => e = .returned (.bool true) ∧ Below w.heap.size w w' := by
  have CW := two_words w
  have HM : Hid (ML w) := hM
  have HT : Hid (t.size ≤ maxLen ∧ p.size ≤ maxLen) := ⟨ht, hp⟩
  have htz : (t.size : Int) ≤ 9223372036854775807 := by unfold maxLen at ht; omega
  have hpz : (p.size : Int) ≤ 9223372036854775807 := by unfold maxLen at hp; omega
  clear hM ht hp
  go_enter Try.func5, Try.ntmps5
  go_wp2_with fail
  refine CW.mono ?_
  rintro e w1 ⟨q1, c1, rfl, HB1⟩
  clear CW
  go_wp2_with fail
  by_cases hE : allE t p = 0
  · have hq : t.size ≤ 300 ∧ p.size ≤ 200 ∧ p.size ≠ 0 := by
      unfold allE at hE
      by_cases h1 : 300 < t.size ∨ 200 < p.size
      · rw [if_pos h1] at hE; exact absurd hE (by decide)
      · by_cases h2 : p.size = 0
        · rw [if_neg h1, if_pos h2] at hE; exact absurd hE (by decide)
        · exact ⟨by omega, by omega, h2⟩
    clear hE
    refine (all_slice t p w1 (HM.out.below HB1.out) hq.1 hq.2.1 hq.2.2).mono ?_
    rintro e w2 ⟨q2, n2, c2, rfl, HN, HB2⟩
    have HB : Hid (Below w.heap.size w w2) := bel HB1.out HB2.out
    clear HB1 HB2 hq
    by_cases hl : t.size < p.size
    · have hlz : (t.size : Int) < p.size := by omega
      obtain rfl := HN.out hl
      clear HN
      go_wp2_with fail
      by_cases h0 : t.size = 0
      · obtain rfl := nil_of h0
        refine (all_no _ _ w2 HT.out.1 HT.out.1 (by decide)).mono ?_
        rintro e w3 ⟨k3, rfl, HB3⟩
        go_wp2_with fail
        go_ret
        exact ⟨rfl, bel HB.out HB3.out⟩
      · have h0b : (t.toList == []) = false := by
          rw [beq_eq_false_iff_ne]; intro e; exact h0 (by rw [← len_eq, e]; rfl)
        by_cases h2 : 200 < t.size
        · have h2z : (200 : Int) < t.size := by omega
          refine (all_no _ _ w2 HT.out.1 HT.out.1 (by unfold allE; rw [if_pos (Or.inr h2)]; decide)).mono ?_
          rintro e w3 ⟨k3, rfl, HB3⟩
          go_wp2_with fail
          go_ret
          exact ⟨rfl, bel HB.out HB3.out⟩
        · refine (all_itself t w2 (HM.out.below HB.out) (by omega) h0).mono ?_
          rintro e w3 ⟨g3, c3, rfl, hc3, HB3⟩
          go_wp2_with fail
          go_ret
          exact ⟨rfl, bel HB.out HB3.out⟩
    · have hlz : ¬ (t.size : Int) < p.size := by omega
      clear HN
      go_wp2_with fail
      by_cases h0 : t.size = 0
      · obtain rfl := nil_of h0
        refine (all_no _ _ w2 HT.out.1 HT.out.1 (by decide)).mono ?_
        rintro e w3 ⟨k3, rfl, HB3⟩
        go_wp2_with fail
        go_ret
        exact ⟨rfl, bel HB.out HB3.out⟩
      · have h0b : (t.toList == []) = false := by
          rw [beq_eq_false_iff_ne]; intro e; exact h0 (by rw [← len_eq, e]; rfl)
        by_cases h2 : 200 < t.size
        · have h2z : (200 : Int) < t.size := by omega
          refine (all_no _ _ w2 HT.out.1 HT.out.1 (by unfold allE; rw [if_pos (Or.inr h2)]; decide)).mono ?_
          rintro e w3 ⟨k3, rfl, HB3⟩
          go_wp2_with fail
          go_ret
          exact ⟨rfl, bel HB.out HB3.out⟩
        · refine (all_itself t w2 (HM.out.below HB.out) (by omega) h0).mono ?_
          rintro e w3 ⟨g3, c3, rfl, hc3, HB3⟩
          go_wp2_with fail
          go_ret
          exact ⟨rfl, bel HB.out HB3.out⟩
  · refine (all_no t p w1 HT.out.1 HT.out.2 hE).mono ?_
    rintro e w2 ⟨k2, rfl, HB2⟩
    have HB : Hid (Below w.heap.size w w2) := bel HB1.out HB2.out
    clear HB1 HB2 hE
    go_wp2_with fail
    by_cases h0 : t.size = 0
    · obtain rfl := nil_of h0
      refine (all_no _ _ w2 HT.out.1 HT.out.1 (by decide)).mono ?_
      rintro e w3 ⟨k3, rfl, HB3⟩
      go_wp2_with fail
      go_ret
      exact ⟨rfl, bel HB.out HB3.out⟩
    · have h0b : (t.toList == []) = false := by
        rw [beq_eq_false_iff_ne]; intro e; exact h0 (by rw [← len_eq, e]; rfl)
      by_cases h2 : 200 < t.size
      · have h2z : (200 : Int) < t.size := by omega
        refine (all_no _ _ w2 HT.out.1 HT.out.1 (by unfold allE; rw [if_pos (Or.inr h2)]; decide)).mono ?_
        rintro e w3 ⟨k3, rfl, HB3⟩
        go_wp2_with fail
        go_ret
        exact ⟨rfl, bel HB.out HB3.out⟩
      · refine (all_itself t w2 (HM.out.below HB.out) (by omega) h0).mono ?_
        rintro e w3 ⟨g3, c3, rfl, hc3, HB3⟩
        go_wp2_with fail
        go_ret
        exact ⟨rfl, bel HB.out HB3.out⟩

end F4
end Go.Proofs.Ytmenknbgmgnfhaa
