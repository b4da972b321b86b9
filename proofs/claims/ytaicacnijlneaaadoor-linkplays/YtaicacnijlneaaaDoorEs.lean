/- Package link: all that is asked of it. -/
import Derived.Test.YtaicacnijlneaaaDoorEr
namespace Go.Proofs.YtaicacnijlneaaaDoor
namespace Es
set_option linter.unusedVariables false
open Go.ChangeShapes Go.WideShapes Go.ChangeAt Go.RowKit Ka Kb Ec Ef Eg Em En Eo Ep Er

theorem says_st {s : Ln} (I : Inv s) {st cnt : Nat} (hst : st = if s.wait ≤ min s.ticks s.wait then s.acked else s.said) (hc : cnt = s.acked + min s.win (s.all.length - s.acked) - st) : saysN s = List.range' (st + 1) cnt := by
  have hl : last s = s.acked + min s.win (s.all.length - s.acked) := by unfold last; have := I.ak; have := I.sd; omega
  rw [← hl] at hc
  by_cases h : s.wait ≤ s.ticks
  · rw [if_pos (by omega)] at hst
    rw [says_late (by unfold late; exact decide_eq_true h), hc, hst]
  · rw [if_neg (by omega)] at hst
    rw [says_new I (by unfold late; exact decide_eq_false h), hc, hst]
theorem end_out (X : Nat) (s : Ln) (F : Nat → Prop) (w : World) (h : At w X s F) (hf : Fit s) : Calls Tryd.prog 8 #[ptr X] w fun e w' => ∃ p n c F', e = .returned (.slice p n c) ∧ FrsJ (fun g => New w.heap.size w' g ∧ ¬ F' g) w' (.slice p n c) (outF s) ∧ At w' X (outS s) F' ∧ Chg F w w' ∧ ∀ g, F' g → F g ∨ w.heap.size ≤ g := by
  have h0 := h
  obtain ⟨hi, u, g, m, hF⟩ := h
  obtain ⟨st, hst⟩ : ∃ st, st = if s.wait ≤ min s.ticks s.wait then s.acked else s.said := ⟨_, rfl⟩
  obtain ⟨cnt, hc⟩ : ∃ cnt, cnt = s.acked + min s.win (s.all.length - s.acked) - st := ⟨_, rfl⟩
  have hsy := says_st hi hst hc
  have a1 := hi.ak
  have a2 := hi.sd
  have a3 := hi.w2
  have a4 := hf.1
  have a5 := hf.2.1
  have a6 := last_said hi
  have hl : last s = s.acked + min s.win (s.all.length - s.acked) := by unfold last; omega
  refine (out_raw X w s.win s.wait s.acked s.said (min s.ticks s.wait) u g s.owes s.all s.got m (by omega) (by omega) (by omega) (by omega) (by omega) st cnt hst a1 hc).mono ?_
  rintro e w' ⟨v, rfl, hr, hm, hch⟩
  obtain ⟨p, n, c, rfl, _⟩ := own_shape hr
  have hO : outF s = (if s.owes = true then [(true, (s.got.length : Int), e0)] else []) ++ frames s.all st cnt := by unfold outF frames; rw [hsy]
  refine ⟨p, n, c, F, rfl, ?_, ⟨inv_out hi, u, g, ?_, hF⟩, hch.mono fun k e => (hF k).2 e, fun k e => Or.inl e⟩
  · rw [hO]
    refine (FrsJ.own hr).mono fun k hk => ⟨⟨own_ge hr k hk, (own_lt hr k hk).1⟩, fun e => ?_⟩
    have h1 := own_ge hr k hk
    have h2 := m.lt k ((hF k).1 e)
    omega
  · have e1 : said' s.said st cnt = max s.said (last s) := by
      unfold said'
      by_cases h9 : cnt = 0
      · rw [if_pos h9]
        by_cases h8 : s.wait ≤ min s.ticks s.wait
        · rw [if_pos h8] at hst; omega
        · rw [if_neg h8] at hst; omega
      · rw [if_neg h9]; omega
    have e2 : ticks' (min s.ticks s.wait) cnt = min (if saysN s = [] then s.ticks else 0) s.wait := by
      unfold ticks'
      rw [hsy]
      by_cases h9 : cnt = 0
      · rw [if_pos h9, h9, if_pos (show List.range' (st + 1) 0 = [] from rfl)]
      · rw [if_neg h9, if_neg (fun e => h9 (by have := congrArg List.length e; simpa using this)), Nat.zero_min]
    show Raw w' X s.win s.wait u s.acked (max s.said (last s) : Nat) (min (if saysN s = [] then s.ticks else 0) s.wait : Nat) g false (s.all.drop s.acked) s.got
    rw [← e1, ← e2]
    exact hm

def says : LinkSays where
  At := At
  inv := fun h => h.1
  lt := fun h => h.lt
  stay := fun h hs hz => h.stay hs hz
  new := end_new
  send := end_send
  out := end_out
  hear := end_hear
  tick := end_tick
  got := end_got
  left := end_left

end Es
end Go.Proofs.YtaicacnijlneaaaDoor
