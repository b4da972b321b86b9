/- What marks.Join answers, whatever it is given. -/
import Derived.Test.YtcmoajlcmeimiaaDoorNn
import Derived.Test.YtcmoajlcmeimiaaDoorWg
namespace Go.Proofs.YtcmoajlcmeimiaaDoor
namespace Nu
set_option linter.unusedVariables false
open Go.ChangeShapes Go.WideShapes Go.ChangeAt Go.RowKit Cm Ka Kb Na Nb Nc Nd Nse Nf Nj Nk Nl Nm Nn
open La (bel bel_drew errV_zero errV_ne own_ge own_grow own_below)

set_option maxRecDepth 100000 in
set_option maxHeartbeats 2000000 in
theorem join_says : Wg.JoinSays := by
  intro v l p vs s w h hs hp hd
  by_cases h0 : joinE l p s = 0
  · rw [h0, errV_zero, (join_marks h0).1]
    exact join_ok v l p vs s w h hs hp hd h0
  · have hL : joinL l p s = [] := by unfold joinL; rw [if_neg h0]
    rw [hL]
    have hb1 : Below w.heap.size w ((w.alloc (.cells #[.string p] 9)).alloc (.cells #[vs] 27)) := ((Below.refl _ w).alloc (Nat.le_refl _) _).alloc (by simp) _
    have C := checkMWith_any v l p _ (h.below hb1) hs hp
    obtain ⟨q, hq⟩ : ∃ q, q = joinE l p s := ⟨_, rfl⟩
    have HV : Hid (errV (joinE l p s) = .iface 74 (.int .i64 q)) := by rw [hq]; exact errV_ne h0
    rw [HV.out]
    have HB1 : Hid (Below w.heap.size w ((w.alloc (.cells #[.string p] 9)).alloc (.cells #[vs] 27))) := hb1
    have HW0 : Hid (∀ w2, Below ((w.alloc (.cells #[.string p] 9)).alloc (.cells #[vs] 27)).heap.size ((w.alloc (.cells #[.string p] 9)).alloc (.cells #[vs] 27)) w2 → w2.cell? ⟨w.heap.size, 0, none⟩ = some (.string p) ∧ w2.cell? ⟨w.heap.size + 1, 0, none⟩ = some vs) := fun w2 hb => by
      have e1 : ((w.alloc (.cells #[.string p] 9)).alloc (.cells #[vs] 27)).heap[w.heap.size]? = some (.cells #[.string p] 9) := by
        have := heap_alloc_old (w.alloc (.cells #[.string p] 9)) (.cells #[vs] 27) (show w.heap.size < _ by simp)
        exact this.trans (heap_alloc_new w _)
      have e2 : ((w.alloc (.cells #[.string p] 9)).alloc (.cells #[vs] 27)).heap[w.heap.size + 1]? = some (.cells #[vs] 27) := by
        have := heap_alloc_new (w.alloc (.cells #[.string p] 9)) (.cells #[vs] 27)
        rwa [show (w.alloc (.cells #[.string p] 9)).heap.size = w.heap.size + 1 by simp] at this
      refine ⟨keep_cell hb ?_, keep_cell hb ?_⟩
      · simp only [World.cell?, e1]; rfl
      · simp only [World.cell?, e2]; rfl
    have HN : Hid (∀ W, MksAt W (.slice none 0 0) []) := fun W => MksAt.nil W
    by_cases h1 : seenE l p = 0
    · have hj : joinE l p s = sawE s := by unfold joinE sawE; rw [if_neg (by simpa using h1)]
      rw [h1, errV_zero] at C
      have HC2 : Hid (∀ w2, Below w.heap.size w w2 → Calls Tryd.prog 45 #[vs] w2 fun e w' => e = .returned (.iface 74 (.int .i64 q)) ∧ Below w2.heap.size w2 w') := fun w2 hb => by
        have := checkSeen_any vs s w2 (hd.below hb)
        rw [← hj, HV.out] at this; exact this
      clear hj h1 hq h0 HV hL hs hp hb1
      obtain ⟨qm, c, rfl, _⟩ := h
      obtain ⟨qs, cs, rfl, _⟩ := hd
      obtain ⟨n, hn⟩ : ∃ n, n = l.length := ⟨_, rfl⟩
      obtain ⟨m, hm⟩ : ∃ m, m = s.length := ⟨_, rfl⟩
      rw [← hn, ← hm] at C
      rw [← hm] at HC2 HW0 HB1
      rw [← hn, ← hm]
      clear hn hm
      go_enter Tryd.func20, Tryd.ntmps20
      go_wp2_with fail
      refine C.mono ?_
      rintro e w2 ⟨rfl, hb2⟩
      have HB2 : Hid (Below w.heap.size w w2) := bel HB1.out hb2
      obtain ⟨d0, d1⟩ := HW0.out w2 hb2
      clear hb2 C
      have C2 := HC2.out w2 HB2.out
      go_wp2_with fail
      refine C2.mono ?_
      rintro e w3 ⟨rfl, hb3⟩
      have HB3 : Hid (Below w.heap.size w w3) := bel HB2.out hb3
      clear hb3 C2 d0 d1
      go_wp2_with fail
      go_ret2
      exact ⟨_, rfl, HN.out _, HB3.out⟩
    · have hj : joinE l p s = seenE l p := by unfold joinE; rw [if_pos h1]
      rw [← hj, HV.out] at C
      clear hj h1 hq h0 HV hL hs hp hb1
      obtain ⟨qm, c, rfl, _⟩ := h
      obtain ⟨qs, cs, rfl, _⟩ := hd
      obtain ⟨n, hn⟩ : ∃ n, n = l.length := ⟨_, rfl⟩
      obtain ⟨m, hm⟩ : ∃ m, m = s.length := ⟨_, rfl⟩
      rw [← hn, ← hm] at C
      rw [← hm] at HW0 HB1
      rw [← hn, ← hm]
      clear hn hm
      go_enter Tryd.func20, Tryd.ntmps20
      go_wp2_with fail
      refine C.mono ?_
      rintro e w2 ⟨rfl, hb2⟩
      have HB2 : Hid (Below w.heap.size w w2) := bel HB1.out hb2
      clear hb2 C
      go_wp2_with fail
      go_ret2
      exact ⟨_, rfl, HN.out _, HB2.out⟩

end Nu
end Go.Proofs.YtcmoajlcmeimiaaDoor
