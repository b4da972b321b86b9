/- What op.Check answers. -/
import Derived.Test.YtcmoajlcmeimiaaDoorVa
import Derived.Test.YtcmoajlcmeimiaaDoorOv
namespace Go.Proofs.YtcmoajlcmeimiaaDoor
namespace Vb
set_option linter.unusedVariables false
open Go.ChangeShapes Go.WideShapes Go.ChangeAt Go.RowKit Cm Ka Kb Na Om Oa Oz Oc Og Oi Ov Va
open La (bel bel_drew errV_zero errV_ne own_ge own_grow own_below)

def letE (t c : Int) : Int := if t = 1 then (if isLetter c = true then 0 else 1) else if c = 0 then 0 else 3
def seenE (t : Int) (s : List Dt) : Int := if t = 4 then sawE s else if s = [] then 0 else 3
theorem lawOf_eq (a b t : Int) (p : ByteArray) (c : Int) (s : List Dt) : lawOf ((a, b), t, p, c, s) = if letE t c ≠ 0 then letE t c else seenE t s := by
  unfold lawOf letE seenE sawE
  simp only
  by_cases h1 : t = 1
  · subst h1
    cases hl : isLetter c
    · simp
    · by_cases hs : s = []
      · subst hs; simp [show dotsE [] = 0 from rfl]
      · simp [hs]
  · by_cases hc : c = 0
    · subst hc
      by_cases h4 : t = 4
      · subst h4; simp
      · by_cases hs : s = []
        · subst hs; simp [h1, h4, show dotsE [] = 0 from rfl]
        · simp [h1, h4, hs]
    · simp [h1, hc]

theorem checkLetter_any (a b t : Int) (p : ByteArray) (c : Int) (v : Value) (w : World) :
    Calls Tryd.prog 52 #[.agg #[.int .i64 a, .int .i64 b, .int .i64 t, .string p, .int .i64 c, v]] w fun e w' => e = .returned (errV (letE t c)) ∧ Below w.heap.size w w' := by
  have HB : Hid (∀ O, Below w.heap.size w (w.alloc O)) := fun O => (Below.refl _ w).alloc (Nat.le_refl _) O
  by_cases h1 : t = 1
  · subst h1
    have HI := fun W => isLetter_any c W
    cases hl : isLetter c
    · have HE : Hid (letE 1 c = 1) := by unfold Hid letE; rw [if_pos rfl, if_neg (by rw [hl]; decide)]
      rw [hl] at HI
      rw [HE.out]
      clear hl
      go_enter Tryd.func52, Tryd.ntmps52
      go_wp2_with fail
      refine (HI _).mono ?_
      rintro e w2 ⟨rfl, hw⟩
      have hw2 := hw.symm; subst hw2; clear hw
      go_wp2_with fail
      go_ret
      exact ⟨rfl, HB.out _⟩
    · have HE : Hid (letE 1 c = 0) := by unfold Hid letE; rw [if_pos rfl, if_pos hl]
      rw [hl] at HI
      rw [HE.out]
      clear hl
      go_enter Tryd.func52, Tryd.ntmps52
      go_wp2_with fail
      refine (HI _).mono ?_
      rintro e w2 ⟨rfl, hw⟩
      have hw2 := hw.symm; subst hw2; clear hw
      go_wp2_with fail
      go_ret
      exact ⟨rfl, HB.out _⟩
  · have h1b : (t == 1) = false := by simpa using h1
    by_cases hc : c = 0
    · subst hc
      have HE : Hid (letE t 0 = 0) := by unfold Hid letE; rw [if_neg h1, if_pos rfl]
      rw [HE.out]
      clear h1
      go_enter Tryd.func52, Tryd.ntmps52
      go_wp2_with fail
      go_ret
      exact ⟨rfl, HB.out _⟩
    · have HE : Hid (letE t c = 3) := by unfold Hid letE; rw [if_neg h1, if_neg hc]
      have hcb : (c != 0) = true := by simpa using hc
      rw [HE.out]
      clear h1 hc
      go_enter Tryd.func52, Tryd.ntmps52
      go_wp2_with fail
      go_ret
      exact ⟨rfl, HB.out _⟩

theorem checkSeen_op (a b t : Int) (p : ByteArray) (c : Int) (v : Value) (s : List Dt) (w : World) (hd : DtsAt w v s) :
    Calls Tryd.prog 53 #[.agg #[.int .i64 a, .int .i64 b, .int .i64 t, .string p, .int .i64 c, v]] w fun e w' => e = .returned (errV (seenE t s)) ∧ Below w.heap.size w w' := by
  have HB : Hid (∀ O, Below w.heap.size w (w.alloc O)) := fun O => (Below.refl _ w).alloc (Nat.le_refl _) O
  by_cases h4 : t = 4
  · subst h4
    have HE : Hid (seenE 4 s = sawE s) := by unfold Hid seenE; rw [if_pos rfl]
    obtain ⟨z, hz⟩ : ∃ z, z = errV (sawE s) := ⟨_, rfl⟩
    have HI : Hid (∀ W, DtsAt W v s → Calls Tryd.prog 45 #[v] W fun e w' => e = .returned z ∧ Below W.heap.size W w') := by
      rw [hz]; exact fun W h => checkSeen_any v s W h
    rw [HE.out, ← hz]
    have HD : Hid (DtsAt w v s) := hd
    obtain ⟨ps, cs, hv, _⟩ := hd
    obtain ⟨n, hn⟩ : ∃ n, n = s.length := ⟨_, rfl⟩
    rw [← hn] at hv
    subst hv
    clear hz HE hn
    go_enter Tryd.func53, Tryd.ntmps53
    go_wp2_with fail
    refine (HI.out _ (HD.out.below (HB.out _))).mono ?_
    rintro e w2 ⟨rfl, hb2⟩
    have HB2 : Hid (Below w.heap.size w w2) := bel (HB.out _) hb2
    clear hb2
    go_wp2_with fail
    go_ret
    exact ⟨rfl, HB2.out⟩
  · have h4b : (t == 4) = false := by simpa using h4
    obtain ⟨ps, cs, hv, _⟩ := hd
    by_cases hs : s = []
    · have HE : Hid (seenE t s = 0) := by unfold Hid seenE; rw [if_neg h4, if_pos hs]
      rw [HE.out]
      rw [hs] at hv
      subst hv
      clear h4 hs
      simp only [List.length_nil]
      go_enter Tryd.func53, Tryd.ntmps53
      go_wp2_with fail
      go_ret
      exact ⟨rfl, HB.out _⟩
    · have HE : Hid (seenE t s = 3) := by unfold Hid seenE; rw [if_neg h4, if_neg hs]
      rw [HE.out]
      obtain ⟨n, hn⟩ : ∃ n, n = s.length := ⟨_, rfl⟩
      have hn0 : (0 : Int) < n := by
        rcases Nat.eq_zero_or_pos n with h | h
        · exact absurd (List.eq_nil_of_length_eq_zero (hn.symm.trans h)) hs
        · omega
      rw [← hn] at hv
      subst hv
      clear h4 hs hn
      go_enter Tryd.func53, Tryd.ntmps53
      go_wp2_with fail
      go_ret
      exact ⟨rfl, HB.out _⟩

end Vb
end Go.Proofs.YtcmoajlcmeimiaaDoor
