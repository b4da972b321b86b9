/- The frame of MarksTell, with what is asked of marks.Join as a premise. -/
import Derived.Test.YtcmoajlcmeimiaaDoorWh
import Derived.Test.YtcmoajlcmeimiaaDoorWi
import Derived.Test.YtcmoajlcmeimiaaDoorWj
import Derived.Test.YtcmoajlcmeimiaaDoorWk
import Derived.Test.YtcmoajlcmeimiaaDoorWl
import Derived.Test.YtcmoajlcmeimiaaDoorNo
import Derived.Test.YtcmoajlcmeimiaaDoorKk
import Derived.Test.YtcmoajlcmeimiaaDoorCards
import Derived.Test.YtcmoajlcmeimiaaDoorTie
import Derived.SevenTiedAt
import Derived.ShutString
namespace Go.Proofs.YtcmoajlcmeimiaaDoor
namespace Wm
set_option linter.unusedVariables false
open Go.ChangeShapes Go.WideShapes Go.ChangeAt Go.RowKit Cm Ka Na No Kt
open Go.ChangeMaps (open_string shut_string)

theorem walk (HJ : Wg.JoinSays) (v : Value) (l : List Mk) (sp : ByteArray) (p1 p2 : Int) (p : ByteArray) (vs : Value) (s : List Dt) (w : World) (h : MksAt w v l) (hs : ∀ x ∈ l, x.1.size ≤ maxLen) (hsp : sp.size ≤ maxLen) (hp : p.size ≤ maxLen) (hd : DtsAt w vs s) (hg : ET w) :
    Calls Tryd.prog 3 #[v, .agg #[.string sp, .int .i64 p1, .int .i64 p2], .string p, vs] w fun e w' => e = .returned (.bool true) ∧ Below w.heap.size w w' := by
  by_cases h0 : marksE l = 0
  · by_cases hm : markE (sp, (p1, p2)) = 0
    · by_cases hc : Pm.chk p.toList = 0
      · by_cases h40 : 40 < s.length
        · exact Wl.walk_mr_s4 v l sp p1 p2 p vs s w HJ h hs hsp hp hd hg h0 hm hc h40
        · by_cases hds : dotsE s = 0
          · exact Wl.walk_mr_ok v l sp p1 p2 p vs s w HJ h hs hsp hp hd hg h0 hm hc (by omega) hds
          · exact Wl.walk_mr_dw v l sp p1 p2 p vs s w HJ h hs hsp hp hd hg h0 hm hc (by omega) hds
      · by_cases hl0 : l = []
        · exact Wk.walk_mr_p0 v l sp p1 p2 p vs s w HJ h hs hsp hp hd hg h0 hm hc hl0
        · exact Wk.walk_mr_p1 v l sp p1 p2 p vs s w HJ h hs hsp hp hd hg h0 hm hc hl0
    · by_cases hc : Pm.chk p.toList = 0
      · by_cases h40 : 40 < s.length
        · exact Wj.walk_mw_s4 v l sp p1 p2 p vs s w HJ h hs hsp hp hd hg h0 hm hc h40
        · by_cases hds : dotsE s = 0
          · exact Wj.walk_mw_ok v l sp p1 p2 p vs s w HJ h hs hsp hp hd hg h0 hm hc (by omega) hds
          · exact Wj.walk_mw_dw v l sp p1 p2 p vs s w HJ h hs hsp hp hd hg h0 hm hc (by omega) hds
      · by_cases hl0 : l = []
        · exact Wi.walk_mw_p0 v l sp p1 p2 p vs s w HJ h hs hsp hp hd hg h0 hm hc hl0
        · exact Wi.walk_mw_p1 v l sp p1 p2 p vs s w HJ h hs hsp hp hd hg h0 hm hc hl0
  · exact Wh.walk_A v l sp p1 p2 p vs s w HJ h hs hsp hp hd hg h0

set_option maxRecDepth 100000 in
theorem lifted (HJ : Wg.JoinSays) (os : Os) (started : os.Started) (H : Type) (enc : TypeId × Value → H) :
    ReturnsInHanded {} Tryd.checked os 3 .any (fun w args => (Rows.marksTellSpec.pre enc Tryd.prog Tryd.f3 [] false w args ∧ laidMetH Tryd.prog Kk.laid w) ∧ sizedMet enc Tryd.prog Tryd.f3 (OpenSpec.ofChange Rows.marksTellSpec) false w args)
      (Rows.marksTellSpec.post enc Tryd.prog Tryd.f3 false true false false) := by
  refine returnsInHanded_of_change_and (C := Tryd.checked) (X := fun w _ => laidMetH Tryd.prog Kk.laid w) (fun _ _ _ hh h => h.of_heap hh) Kk.own started (by kernel_rfl) Tryd.func3
    (ChangeSpec.witness_at (enc := enc) (C := Tryd.checked) (os := os) (X := fun w _ => laidMetH Tryd.prog Kk.laid w) false { World.holding Tryd.prog os ⟨#[], #[], []⟩ with heap := (World.holding Tryd.prog os ⟨#[], #[], []⟩).heap.modify 0 Kk.put } #[.slice none 0 0, .agg #[.string ByteArray.empty, .int .i64 0, .int .i64 0], .string ByteArray.empty, .slice none 0 0] 8 rfl (by kernel_rfl) (by kernel_rfl) (by kernel_rfl) (by kernel_rfl) (by kernel_rfl) (Kk.laidWorld_met os _)) ?_
  intro W base args ds gs before hval0 hW _ _ hL _
  have hval : ∀ (j : Nat) t v, Tryd.f3.params[j]? = some t → args[j]? = some v → Value.okWide Tryd.prog W .any base t v := hval0
  have hW' := hW
  obtain ⟨p, q, hA0, hV0, rfl, hfz, hnd⟩ := hW
  have hA : DataW.TrodAll enc Tryd.prog W 0 (fun _ => true) true Tryd.f3.params.toList args.toList ds p := hA0
  have hV : DataW.TrodVars enc Tryd.prog W (fun _ => true) [] gs q := hV0
  rw [Tryd.params3] at hA hval
  obtain ⟨v0, vs0, d0, ds0, p0, q0, hargs, rfl, rfl, h0, r0⟩ := trodAll_cons hA
  obtain ⟨v1, vs1, d1, ds1, p1, q1, rfl, rfl, rfl, h1, r1⟩ := trodAll_cons r0
  obtain ⟨v2, vs2, d2, ds2, p2, q2, rfl, rfl, rfl, h2, r2⟩ := trodAll_cons r1
  obtain ⟨v3, vs3, d3, ds3, p3, q3, rfl, rfl, rfl, h3, r3⟩ := trodAll_cons r2
  obtain ⟨rfl, rfl, rfl⟩ := trodAll_nil r3
  obtain rfl : args = #[v0, v1, v2, v3] := by cases args; simp_all
  have k0 := h0
  have lt0 : ∀ x ∈ p0, x.block < W.heap.size := by obtain ⟨m, hm⟩ := k0; exact DataW.trod_lt m _ _ _ hm
  have k1 := h1
  have lt1 : ∀ x ∈ p1, x.block < W.heap.size := by obtain ⟨m, hm⟩ := k1; exact DataW.trod_lt m _ _ _ hm
  have k3 := h3
  have lt3 : ∀ x ∈ p3, x.block < W.heap.size := by obtain ⟨m, hm⟩ := k3; exact DataW.trod_lt m _ _ _ hm
  obtain ⟨l, hbk, hsz⟩ := open_marks (hval 0 22 v0 rfl rfl) h0
  obtain ⟨s, a, b, e1, hsp⟩ := open_one (hval 1 26 v1 rfl rfl) h1
  obtain ⟨a2, rfl, rfl, rfl, w2⟩ := open_string Tryd.underlying9 (hval 2 9 v2 rfl rfl) h2
  obtain ⟨sd, hsd⟩ := open_dots (hval 3 27 v3 rfl rfl) h3
  have hg := Kk.handle_of_laid hL
  obtain ⟨rfl, rfl⟩ : gs = [] ∧ q = [] := by
    cases gs with
    | nil => exact ⟨rfl, hV⟩
    | cons g r => exact absurd hV (by intro h; cases h)
  clear hA0 hval0
  simp only [List.append_nil] at hW'
  subst e1
  refine (walk HJ v0 l s a b a2 v3 sd W hbk hsz hsp w2 hsd hg).mono fun e W' ⟨he, bel⟩ => ?_
  subst he
  exact ⟨_, rfl, _, _, _, [], _, [], hW', trodAll_mk1 (shut_bool Tryd.underlying4 _), (trodAll_cons_mk (Below.trod laidOut (by kernel_rfl) (of_decide_eq_true (by kernel_rfl)) k0 bel lt0) (trodAll_cons_mk (Below.trod laidOut (by kernel_rfl) (of_decide_eq_true (by kernel_rfl)) k1 bel lt1) (trodAll_cons_mk (shut_string Tryd.underlying9 w2) (trodAll_cons_mk (Below.trod laidOut (by kernel_rfl) (of_decide_eq_true (by kernel_rfl)) k3 bel lt3) trodAll_mk0)))), rfl, bel.frame _, fun h => by cases h⟩

theorem over (HJ : Wg.JoinSays) : Rows.MarksTellSaid :=
  OpenClaim.holds_of_wide 3 Tryd.f3 rfl rfl rfl rfl rfl rfl rfl ⟨rfl, rfl, rfl, rfl, rfl⟩ rfl rfl rfl rfl rfl (by kernel_rfl) Tryd.func3 (by kernel_rfl)
    (of_decide_eq_true (by kernel_rfl)) (by unfold Func.isWrapper; rw [if_neg (of_decide_eq_false (by kernel_rfl))]; exact ⟨rfl, rfl⟩)
    (fun os started H enc _ => lifted HJ os started H enc)

end Wm

theorem marksTell_of (HJ : Wg.JoinSays) : Rows.MarksTellCardSaid :=
  Claim7.holds_tied_plain_at .later [] [.handle] true Rows.marksTellCard.stood.harness true
    (Wm.over HJ) (fun _ h => by cases h) (by kernel_rfl) (fun _ h => by cases h) marksTell_row_tie rfl ⟨rfl, rfl⟩ (by kernel_rfl) rfl
    (fun f fn hf hfn => by
      obtain rfl : f = 3 := Option.some.inj ((show Tryd.prog.funcNamed Rows.marksTellRow.func = some 3 by kernel_rfl).symm.trans hf) |>.symm
      obtain rfl : fn = Tryd.f3 := (Option.some.inj (Tryd.func3.symm.trans hfn)).symm
      exact ⟨by kernel_rfl, fun j t ht => by
        rw [Tryd.params3] at ht
        have h3 : t = 22 ∨ t = 26 ∨ t = 9 ∨ t = 27 := by
          rcases j with _ | _ | _ | _ | j
          · exact Or.inl (by simpa using ht.symm)
          · exact Or.inr (Or.inl (by simpa using ht.symm))
          · exact Or.inr (Or.inr (Or.inl (by simpa using ht.symm)))
          · exact Or.inr (Or.inr (Or.inr (by simpa using ht.symm)))
          · simp at ht
        rcases h3 with rfl | rfl | rfl | rfl
        · exact (show Tryd.prog.wantsStandIn 22 = false by kernel_rfl)
        · exact (show Tryd.prog.wantsStandIn 26 = false by kernel_rfl)
        · exact (show Tryd.prog.wantsStandIn 9 = false by kernel_rfl)
        · exact (show Tryd.prog.wantsStandIn 27 = false by kernel_rfl)⟩)
    (by kernel_rfl)
#print axioms marksTell_of
end Go.Proofs.YtcmoajlcmeimiaaDoor
