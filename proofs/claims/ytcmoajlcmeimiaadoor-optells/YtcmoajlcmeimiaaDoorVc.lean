/- What op.Check answers. -/
import Derived.Test.YtcmoajlcmeimiaaDoorVb
namespace Go.Proofs.YtcmoajlcmeimiaaDoor
namespace Vc
set_option linter.unusedVariables false
open Go.ChangeShapes Go.WideShapes Go.ChangeAt Go.RowKit Cm Ka Kb Na Om Oa Oz Oc Og Oi Ov Va Vb
open La (bel bel_drew errV_zero errV_ne own_ge own_grow own_below)

theorem six_in {w w2 : World} {a b t : Int} {p : ByteArray} {c : Int} {v : Value} {T : TypeId} (hb : Below (w.alloc (.cells #[.int .i64 a, .int .i64 b, .int .i64 t, .string p, .int .i64 c, v] T)).heap.size (w.alloc (.cells #[.int .i64 a, .int .i64 b, .int .i64 t, .string p, .int .i64 c, v] T)) w2) :
    Six w2 w.heap.size a b t p c v ∧ Below w.heap.size w w2 := ⟨(six_new w a b t p c v T).below hb, bel ((Below.refl _ w).alloc (Nat.le_refl _) _) hb⟩

set_option maxRecDepth 100000 in
set_option maxHeartbeats 2000000 in
theorem check_says : CheckSays := by
  intro a b t p c v s w hd hp
  obtain ⟨ps, cs, hv, _⟩ := id hd
  obtain ⟨n, hn⟩ : ∃ n, n = s.length := ⟨_, rfl⟩
  rw [← hn] at hv
  subst hv
  have HD : Hid (DtsAt w (.slice ps n cs) s) := hd
  clear hd hn
  have HOE : Hid (opE ((a, b), t, p, c, s) = if dotE a b ≠ 0 then dotE a b else if t < 1 ∨ 4 < t then 1 else if Pm.chk p.toList ≠ 0 then Pm.chk p.toList else if letE t c ≠ 0 then letE t c else seenE t s) := by
    unfold Hid; rw [← lawOf_eq a b t p c s]; rfl
  have C1 := fun W => dotCheck_any a b W
  by_cases h1 : dotE a b = 0
  case neg =>
    obtain ⟨k, hk⟩ : ∃ k, k = dotE a b := ⟨_, rfl⟩
    have HE : Hid (errV (opE ((a, b), t, p, c, s)) = .iface 74 (.int .i64 k)) := by unfold Hid; rw [HOE.out, if_pos h1, hk]; exact errV_ne h1
    rw [errV_ne h1, ← hk] at C1
    rw [HE.out]
    clear h1 hk HOE
    go_enter Tryd.func22, Tryd.ntmps22
    go_wp2_with fail
    refine (C1 _).mono ?_
    rintro e w2 ⟨rfl, hb2⟩
    have HB2 : Hid (Below w.heap.size w w2) := (six_in hb2).2
    clear hb2
    go_wp2_with fail
    go_ret
    exact ⟨rfl, HB2.out⟩
  rw [h1, errV_zero] at C1
  by_cases h2 : t < 1 ∨ 4 < t
  case pos =>
    have HE : Hid (errV (opE ((a, b), t, p, c, s)) = .iface 74 (.int .i64 1)) := by unfold Hid; rw [HOE.out, if_neg (by simpa using h1), if_pos h2]; rfl
    rw [HE.out]
    clear h1 HOE
    go_enter Tryd.func22, Tryd.ntmps22
    go_wp2_with fail
    refine (C1 _).mono ?_
    rintro e w2 ⟨rfl, hb2⟩
    obtain ⟨⟨o0, o1, o2, o3, o4, o5⟩, hbw⟩ := six_in hb2
    have HB2 : Hid (Below w.heap.size w w2) := hbw
    clear hb2 hbw
    rcases h2 with h2 | h2
    · go_wp2_with fail
      go_ret
      exact ⟨rfl, HB2.out⟩
    · have h2b : ¬ t < 1 := by omega
      go_wp2_with fail
      go_ret
      exact ⟨rfl, HB2.out⟩
  have h2a : ¬ t < 1 := fun h => h2 (Or.inl h)
  have h2b : ¬ 4 < t := fun h => h2 (Or.inr h)
  have C2 := fun W => check_any p W hp
  by_cases h3 : Pm.chk p.toList = 0
  case neg =>
    obtain ⟨k, hk⟩ : ∃ k, k = Pm.chk p.toList := ⟨_, rfl⟩
    have HE : Hid (errV (opE ((a, b), t, p, c, s)) = .iface 74 (.int .i64 k)) := by unfold Hid; rw [HOE.out, if_neg (by simpa using h1), if_neg h2, if_pos h3, hk]; exact errV_ne h3
    rw [errV_ne h3, ← hk] at C2
    rw [HE.out]
    clear h1 h2 h3 hk HOE
    go_enter Tryd.func22, Tryd.ntmps22
    go_wp2_with fail
    refine (C1 _).mono ?_
    rintro e w2 ⟨rfl, hb2⟩
    obtain ⟨⟨o0, o1, o2, o3, o4, o5⟩, hbw⟩ := six_in hb2
    have HB2 : Hid (Below w.heap.size w w2) := hbw
    clear hb2 hbw
    go_wp2_with fail
    refine (C2 _).mono ?_
    rintro e w3 ⟨rfl, hw⟩
    have hw2 := hw.symm; subst hw2; clear hw
    go_wp2_with fail
    go_ret
    exact ⟨rfl, HB2.out⟩
  rw [h3, errV_zero] at C2
  have C3 := fun W => checkLetter_any a b t p c (.slice ps n cs) W
  by_cases h4 : letE t c = 0
  case neg =>
    obtain ⟨k, hk⟩ : ∃ k, k = letE t c := ⟨_, rfl⟩
    have HE : Hid (errV (opE ((a, b), t, p, c, s)) = .iface 74 (.int .i64 k)) := by unfold Hid; rw [HOE.out, if_neg (by simpa using h1), if_neg h2, if_neg (by simpa using h3), if_pos h4, hk]; exact errV_ne h4
    rw [errV_ne h4, ← hk] at C3
    rw [HE.out]
    clear h1 h2 h3 h4 hk HOE
    go_enter Tryd.func22, Tryd.ntmps22
    go_wp2_with fail
    refine (C1 _).mono ?_
    rintro e w2 ⟨rfl, hb2⟩
    obtain ⟨⟨o0, o1, o2, o3, o4, o5⟩, hbw⟩ := six_in hb2
    have HB2 : Hid (Below w.heap.size w w2) := hbw
    clear hb2 hbw
    go_wp2_with fail
    refine (C2 _).mono ?_
    rintro e w3 ⟨rfl, hw⟩
    have hw2 := hw.symm; subst hw2; clear hw
    go_wp2_with fail
    refine (C3 _).mono ?_
    rintro e w4 ⟨rfl, hb4⟩
    have HB4 : Hid (Below w.heap.size w w4) := bel HB2.out hb4
    clear hb4
    go_wp2_with fail
    go_ret
    exact ⟨rfl, HB4.out⟩
  rw [h4, errV_zero] at C3
  obtain ⟨z, hz⟩ : ∃ z, z = errV (seenE t s) := ⟨_, rfl⟩
  have HE : Hid (errV (opE ((a, b), t, p, c, s)) = z) := by unfold Hid; rw [HOE.out, if_neg (by simpa using h1), if_neg h2, if_neg (by simpa using h3), if_neg (by simpa using h4), hz]
  have C4 : Hid (∀ W, DtsAt W (.slice ps n cs) s → Calls Tryd.prog 53 #[.agg #[.int .i64 a, .int .i64 b, .int .i64 t, .string p, .int .i64 c, .slice ps n cs]] W fun e w' => e = .returned z ∧ Below W.heap.size W w') := by
    rw [hz]; exact fun W h => checkSeen_op a b t p c _ s W h
  rw [HE.out]
  clear h1 h2 h3 h4 hz HOE HE
  go_enter Tryd.func22, Tryd.ntmps22
  go_wp2_with fail
  refine (C1 _).mono ?_
  rintro e w2 ⟨rfl, hb2⟩
  obtain ⟨⟨o0, o1, o2, o3, o4, o5⟩, hbw⟩ := six_in hb2
  have HB2 : Hid (Below w.heap.size w w2) := hbw
  clear hb2 hbw
  go_wp2_with fail
  refine (C2 _).mono ?_
  rintro e w3 ⟨rfl, hw⟩
  have hw2 := hw.symm; subst hw2; clear hw
  go_wp2_with fail
  refine (C3 _).mono ?_
  rintro e w4 ⟨rfl, hb4⟩
  have HB4 : Hid (Below w.heap.size w w4) := bel HB2.out hb4
  obtain ⟨q0, q1, q2, q3, q4, q5⟩ := (show Six w2 w.heap.size a b t p c (.slice ps n cs) from ⟨o0, o1, o2, o3, o4, o5⟩).below hb4
  clear hb4 o0 o1 o2 o3 o4 o5
  go_wp2_with fail
  refine (C4.out _ (HD.out.below HB4.out)).mono ?_
  rintro e w5 ⟨rfl, hb5⟩
  have HB5 : Hid (Below w.heap.size w w5) := bel HB4.out hb5
  clear hb5
  go_wp2_with fail
  go_ret
  exact ⟨rfl, HB5.out⟩

end Vc
end Go.Proofs.YtcmoajlcmeimiaaDoor
