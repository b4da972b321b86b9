/- What the reference says of marks with one more: With. -/
import Derived.Test.YtcmoajlcmeimiaaDoorWc
import Derived.Test.YtcmoajlcmeimiaaDoorNg
import Derived.Test.YtcmoajlcmeimiaaDoorNp
namespace Go.Proofs.YtcmoajlcmeimiaaDoor
namespace Wd
set_option linter.unusedVariables false
open Go.ChangeShapes Go.WideShapes Go.ChangeAt Go.RowKit Cm Ka Kb Na Nb Nc Nd Nse Nf Ng Nj Nk Np Wp Wa Wb Wc
open La (bel bel_drew errV_zero errV_ne own_ge own_grow own_below)

theorem mark_new (w : World) (x : Mk) (t : TypeId) : ∀ j u, (flat [x])[j]? = some u → (w.alloc (.cells #[.string x.1, .int .i64 x.2.1, .int .i64 x.2.2] t)).cell? ((⟨w.heap.size, 0, none⟩ : Addr).add j) = some u := by
  intro j u hu
  have h2 : (w.alloc (.cells #[.string x.1, .int .i64 x.2.1, .int .i64 x.2.2] t)).heap[w.heap.size]? = some (.cells #[.string x.1, .int .i64 x.2.1, .int .i64 x.2.2] t) := heap_alloc_new w _
  have e : flat [x] = [.string x.1, .int .i64 x.2.1, .int .i64 x.2.2] := rfl
  rw [e] at hu
  rw [Addr.add_lit, Nat.zero_add]
  simp only [World.cell?, h2]
  simpa using hu
theorem alloc_le (w : World) (o : Obj) : w.heap.size ≤ (w.alloc o).heap.size := by simp
theorem own_app {w : World} {base : Nat} {t : TypeId} {v : Value} {n m : Nat} {a b : List Mk} (hn : a.length = n) (hm : b.length = m) (h : w.ownsRow base t 3 v (n + m) (flat a ++ flat b)) : w.ownsRow base t 3 v (a ++ b).length (flat (a ++ b)) := by
  rw [List.length_append, flat_append, hn, hm]; exact h
theorem ins_at {l : List Mk} {m : Mk} (h : there l m = false) : ins mlt l m = l.take (pos mlt l m) ++ m :: l.drop (pos mlt l m) := by
  unfold ins
  rw [if_neg]
  intro h2
  rw [there_iff.2 h2] at h; cases h
def withL (l : List Mk) (m : Mk) : List Mk := if withM l m = 0 then ins mlt l m else []

set_option maxRecDepth 100000 in
set_option maxHeartbeats 4000000 in
theorem with_some (b o n c : Nat) (l : List Mk) (sp : ByteArray) (p1 p2 : Int) (w : World) (hl : l.length = n) (hcs : ∀ j, j < l.length → MAt w b o j (l.getD j none1)) (hn0 : 0 < n) (hn : n ≤ 40) (hnc : n ≤ c) (hcm : c ≤ maxLen) (hr : Rise mlt l) :
    Calls Tryd.prog 10 #[.slice (some ⟨b, o, none⟩) n c, .agg #[.string sp, .int .i64 p1, .int .i64 p2]] w fun e w' => ∃ v', e = .returned (.tuple #[v', .int .i64 (withM l (sp, (p1, p2)))]) ∧ (MksAt w' v' (withL l (sp, (p1, p2))) ∧ (v' = .slice (some ⟨b, o, none⟩) n c ∨ La.Lies w.heap.size v')) ∧ Below w.heap.size w w' := by
  obtain ⟨i0, hi0, hz0, hz1, hz2⟩ := info_parts infoMark
  have HNC : Hid (∀ wr, Below (w.alloc (.cells #[.string sp, .int .i64 p1, .int .i64 p2] 26)).heap.size (w.alloc (.cells #[.string sp, .int .i64 p1, .int .i64 p2] 26)) wr → wr.cell? ⟨w.heap.size, 0, none⟩ = some (.string sp) ∧ wr.cell? ⟨w.heap.size, 1, none⟩ = some (.int .i64 p1) ∧ wr.cell? ⟨w.heap.size, 2, none⟩ = some (.int .i64 p2)) := fun wr hb => new_cell (x := (sp, (p1, p2))) hb
  have HB0 : Hid (Below w.heap.size w (w.alloc (.cells #[.string sp, .int .i64 p1, .int .i64 p2] 26))) := (Below.refl _ w).alloc (Nat.le_refl _) _
  have HL : Hid (l.length = n) := hl
  have HCS : Hid (∀ j, j < l.length → MAt w b o j (l.getD j none1)) := hcs
  have HR : Hid (Rise mlt l) := hr
  have HCM : Hid (c ≤ maxLen) := hcm
  have hcm2 : c ≤ 9223372036854775807 := by unfold maxLen at hcm; omega
  clear hl hcs hr hcm
  go_enter Tryd.func10, Tryd.ntmps10
  go_wp2
  go_loopw [6] (fun vi wr => ∃ (k : Nat), k ≤ n ∧ vi = .int .i64 k ∧ Hid (∀ j, j < k → mlt (l.getD j none1) (sp, (p1, p2)) = true) ∧ Hid (Below w.heap.size w wr) ∧ Hid (wr.cell? ⟨w.heap.size, 0, none⟩ = some (.string sp) ∧ wr.cell? ⟨w.heap.size, 1, none⟩ = some (.int .i64 p1) ∧ wr.cell? ⟨w.heap.size, 2, none⟩ = some (.int .i64 p2))) (fun vi _ => n - (intOf vi).toNat)
  case atStart => exact ⟨0, by omega, rfl, fun j hj => absurd hj (by omega), HB0, HNC.out _ (Below.refl _ _)⟩
  case round =>
    clear HNC HB0
    obtain ⟨k, hk, rfl, H1, KB, HX0⟩ := hrel
    obtain ⟨d0, d1, d2⟩ := HX0.out
    by_cases hlt : k < n
    · have hltz : (k : Int) < n := by omega
      have hkl : k < l.length := by rw [HL.out]; exact hlt
      have ha := (HCS.out k hkl).below KB.out (HCS.out k hkl).lt
      obtain ⟨x, hx⟩ : ∃ x, x = l.getD k none1 := ⟨_, rfl⟩
      rw [← hx] at ha
      have HX : Hid (x = l.getD k none1) := hx
      obtain ⟨sx, x1, x2⟩ := x
      obtain ⟨a1, a2, a3⟩ := ha
      simp only at a1 a2 a3
      clear hx
      have C := fun W => before_ref sx x1 x2 sp p1 p2 W
      cases hq : mlt (sx, (x1, x2)) (sp, (p1, p2))
      · rw [hq] at C
        have HP : Hid (pos mlt l (sp, (p1, p2)) = k) := by
          refine pos_eq HR.out (by omega) H1.out (fun j h1 h2 => ?_)
          cases h8 : mlt (l.getD j none1) (sp, (p1, p2))
          · rfl
          · rcases Nat.lt_or_eq_of_le h1 with h | rfl
            · have h9 := mlt_strict.2.1 _ _ _ (rise_get HR.out h h2) h8
              rw [← HX.out, hq] at h9; cases h9
            · rw [← HX.out, hq] at h8; cases h8
        have HTH : Hid (there l (sp, (p1, p2)) = decide (((sx, (x1, x2)) : Mk) = (sp, (p1, p2)))) := by
          unfold Hid; rw [there_pos HR.out, HP.out, decide_eq_true hkl, Bool.true_and, HX.out]
        clear hq
        go_wp2_with fail
        go_region_held3 (fun W => W.cell? ⟨b, o + k * 3, none⟩ = some (.string sx) ∧ W.cell? ⟨b, o + k * 3 + 1, none⟩ = some (.int .i64 x1) ∧ W.cell? ⟨b, o + k * 3 + 2, none⟩ = some (.int .i64 x2) ∧ W.cell? ⟨w.heap.size, 0, none⟩ = some (.string sp) ∧ W.cell? ⟨w.heap.size, 1, none⟩ = some (.int .i64 p1) ∧ W.cell? ⟨w.heap.size, 2, none⟩ = some (.int .i64 p2)) (first | (go_keep; done) | (refine ⟨keep_cell hb7 ?_, keep_cell hb7 ?_, keep_cell hb7 ?_, keep_cell hb7 ?_, keep_cell hb7 ?_, keep_cell hb7 ?_⟩ <;> (go_split_ands; assumption))) (first
          | (go_at_call 33; refine (C _).mono ?_; rintro e w7 ⟨rfl, hb7⟩; have HB7 : Hid (Below w.heap.size w w7) := bel KB.out.drew hb7; have HC7 : Hid (Below wr.heap.size wr w7) := bel (Below.refl _ wr).drew hb7))
        all_goals
          have KB2 : Hid (Below w.heap.size w w7) := HB7
          have b1 := keep_cell HC7.out a1
          have b2 := keep_cell HC7.out a2
          have b3 := keep_cell HC7.out a3
          have e0 := keep_cell HC7.out d0
          have e1 := keep_cell HC7.out d1
          have e2 := keep_cell HC7.out d2
          clear a1 a2 a3 d0 d1 d2 KB HB7 HC7
          have d0 := e0
          have d1 := e1
          have d2 := e2
          have KB := KB2
          clear e0 e1 e2 KB2
          have hqq : ∀ w, (binOp .eql 26 (.agg #[.string sx, .int .i64 x1, .int .i64 x2]) (.agg #[.string sp, .int .i64 p1, .int .i64 p2])).run Tryd.prog w = .ok (.bool (decide (((sx, (x1, x2)) : Mk) = (sp, (p1, p2))))) w := fun w => eql_mark sx sp x1 p1 x2 p2 w
          have hgg : Tryd.prog.eqGuardType Tryd.prog.depth 26 = false := by kernel_rfl
          by_cases hxy : ((sx, (x1, x2)) : Mk) = (sp, (p1, p2))
          · rw [decide_eq_true hxy] at hqq HTH
            have HWM : Hid (withM l (sp, (p1, p2)) = 0) := by unfold Hid withM; rw [if_pos HTH.out]
            have HWL : Hid (withL l (sp, (p1, p2)) = l) := by unfold Hid withL; rw [if_pos HWM.out]; exact ins_there (there_iff.1 HTH.out)
            have HM : Hid (∀ W, Below w.heap.size w W → MksAt W (.slice (some ⟨b, o, none⟩) n c) l) := fun W hb => ⟨some ⟨b, o, none⟩, c, by rw [HL.out], Or.inr ⟨b, o, rfl, fun j hj => (HCS.out j hj).below hb (HCS.out j hj).lt⟩, by rw [HL.out]; exact hnc, HCM.out, fun h => by cases h⟩
            clear hxy
            go_wp2_with fail
            go_quiet (fail)
            generalize hwq : World.drewN _ _ = wq
            have KQ : Hid (Below w.heap.size w wq) := by rw [← hwq]; exact bel_drew KB.out _
            clear hwq
            go_wp2_with fail
            go_ret2
            exact ⟨_, by rw [HWM.out]; rfl, by rw [HWL.out]; exact ⟨HM.out _ KQ.out, Or.inl rfl⟩, KQ.out⟩
          · rw [decide_eq_false hxy] at hqq HTH
            clear hxy
            by_cases h40 : 40 ≤ n
            · have HWM : Hid (withM l (sp, (p1, p2)) = 4) := by unfold Hid withM; rw [if_neg (by rw [HTH.out]; decide), if_pos (by rw [HL.out]; exact h40)]
              have HWL : Hid (withL l (sp, (p1, p2)) = []) := by unfold Hid withL; rw [HWM.out]; rfl
              have hz : (40 : Int) ≤ n := by omega
              go_wp2_with fail
              go_quiet (fail)
              generalize hwq : World.drewN _ _ = wq
              have KQ : Hid (Below w.heap.size w wq) := by rw [← hwq]; exact bel_drew KB.out _
              clear hwq
              go_wp2_with fail
              go_ret2
              exact ⟨_, by rw [HWM.out]; rfl, by rw [HWL.out]; exact ⟨MksAt.nil _, Or.inr (La.Lies.nil _)⟩, KQ.out⟩
            · have HWM : Hid (withM l (sp, (p1, p2)) = 0) := by unfold Hid withM; rw [if_neg (by rw [HTH.out]; decide), if_neg (by rw [HL.out]; exact h40)]
              have HWL : Hid (withL l (sp, (p1, p2)) = l.take k ++ (sp, (p1, p2)) :: l.drop k) := by unfold Hid withL; rw [if_pos HWM.out, ins_at HTH.out, HP.out]
              clear HTH HP
              go_wp2_with fail
              go_quiet (fail)
              generalize hwq : World.drewN _ _ = wq
              have KQ : Hid (Below w.heap.size w wq) := by rw [← hwq]; exact bel_drew KB.out _
              have g0 : wq.cell? ⟨w.heap.size, 0, none⟩ = some (.string sp) := by rw [← hwq]; exact d0
              have g1 : wq.cell? ⟨w.heap.size, 1, none⟩ = some (.int .i64 p1) := by rw [← hwq]; exact d1
              have g2 : wq.cell? ⟨w.heap.size, 2, none⟩ = some (.int .i64 p2) := by rw [← hwq]; exact d2
              clear hwq b1 b2 b3 d0 d1 d2 KB
              have hz : ¬ (40 : Int) ≤ n := by omega
              have hn40 : n < 40 := by omega
              clear h40
              have hiz : (k : Int) ≤ n := by omega
              have hicz : (k : Int) ≤ c := by omega
              have hck : ¬ c = k := by omega
              have had : (if c = k then some (⟨b, o, none⟩ : Addr) else some ⟨b, o + k * 3, none⟩) = some ⟨b, o + k * 3, none⟩ := if_neg hck
              have HT : Hid (∀ W, Below wq.heap.size wq W → ∀ j u, (flat (l.take k))[j]? = some u → W.cell? ((⟨b, o, none⟩ : Addr).add j) = some u) := by
                intro W hb j u hu
                have h2 : ∀ j, j < l.length → MAt W b o j (l.getD j none1) := fun j hj => ((HCS.out j hj).below KQ.out (HCS.out j hj).lt).below hb (((HCS.out j hj).below KQ.out (HCS.out j hj).lt).lt)
                rcases take_part (i := k) (c := c) (by rw [HL.out]; omega) h2 with ⟨e, _⟩ | ⟨ad2, c2, e, hc2⟩
                · cases e
                · injection e with e1 e2 e3
                  injection e1 with e1
                  rw [e1]; exact hc2 j u hu
              have HD : Hid (∀ W, Below wq.heap.size wq W → ∀ j u, (flat (l.drop k))[j]? = some u → W.cell? ((⟨b, o + k * 3, none⟩ : Addr).add j) = some u) := by
                intro W hb j u hu
                have h2 : ∀ j, j < l.length → MAt W b o j (l.getD j none1) := fun j hj => ((HCS.out j hj).below KQ.out (HCS.out j hj).lt).below hb (((HCS.out j hj).below KQ.out (HCS.out j hj).lt).lt)
                rcases drop_part HL.out (by omega) hnc had h2 with ⟨e, _⟩ | ⟨ad2, c2, e, hc2⟩
                · cases e
                · injection e with e1 e2 e3
                  injection e1 with e1
                  rw [e1]; exact hc2 j u hu
              have HLT : Hid ((l.take k).length = k) := by unfold Hid; rw [List.length_take, HL.out]; omega
              have HLD : Hid ((l.drop k).length = n - k) := by unfold Hid; have h9 := List.length_drop (l := l) (i := k); rw [HL.out] at h9; omega
              have HF1 : Hid ((flat (l.take k)).length = k * 3) := by unfold Hid; rw [flat_length, HLT.out]
              have HF3 : Hid ((flat (l.drop k)).length = (n - k) * 3) := by unfold Hid; rw [flat_length, HLD.out]
              have hm1 : 0 + k ≤ maxLen := by unfold maxLen; omega
              have hm2 : (0 + k) * 32 ≤ 140737488355328 := by omega
              have hm3 : (l.take k).length + 1 ≤ maxLen := by rw [HLT.out]; unfold maxLen; omega
              have hm4 : ((l.take k).length + 1) * 32 ≤ 140737488355328 := by rw [HLT.out]; omega
              have hm5 : (l.take k ++ [(sp, (p1, p2))]).length + (n - k) ≤ maxLen := by rw [List.length_append, HLT.out]; unfold maxLen; simp; omega
              have hm6 : ((l.take k ++ [(sp, (p1, p2))]).length + (n - k)) * 32 ≤ 140737488355328 := by rw [List.length_append, HLT.out]; simp; omega
              go_wp2_with (first
                | (at_builtin; refine wpList_append_own_at _ rfl (.tmp 38) (.tmp 41) 22 rfl wq.heap.size 26 i0 (.agg #[.string ⟨#[]⟩, .int .i64 0, .int .i64 0]) 3 32 Tryd.underlying22 hi0 hz0 hz1 hz2 rfl (by decide) (.slice none 0 0) 0 [] rfl (World.ownsRow_nil _ _ _ _) ⟨b, o, none⟩ k c (flat (l.take k)) rfl HF1.out (HT.out _ (Below.refl _ _)) (flat_one _) hm1 hm2 (Nat.le_refl _) ?_; intro v1 w1 hown1 hgrow1 _ hat1; have HW1 : Hid (w1.ownsRow wq.heap.size 26 3 v1 (l.take k).length (flat (l.take k))) := (by have h9 := hown1; rw [Nat.zero_add, List.nil_append] at h9; rw [HLT.out]; exact h9); have HB2 : Hid (Below wq.heap.size wq w1) := (Below.refl _ _).grown hgrow1 (Nat.le_refl _) (fun k hk => by cases hk); have d0 := keep_cell HB2.out g0; have d1 := keep_cell HB2.out g1; have d2 := keep_cell HB2.out g2; have HS2 : Hid (wq.heap.size ≤ (w1.alloc (.cells #[.string sp, .int .i64 p1, .int .i64 p2] 26)).heap.size) := Nat.le_trans HB2.out.size (alloc_le _ _); clear hown1 hgrow1 hat1)
                | (at_builtin; refine wpList_append_own_at _ rfl (.tmp 43) (.tmp 45) 22 rfl wq.heap.size 26 i0 (.agg #[.string ⟨#[]⟩, .int .i64 0, .int .i64 0]) 3 32 Tryd.underlying22 hi0 hz0 hz1 hz2 rfl (by decide) v1 _ _ rfl (HW1.out.alloc _) ⟨w1.heap.size, 0, none⟩ 1 1 (flat [(sp, (p1, p2))]) rfl rfl (mark_new w1 (sp, (p1, p2)) _) (flat_one _) hm3 hm4 HS2.out ?_; intro v2 w2 hown2 hgrow2 _ hat2; have HW2 : Hid (w2.ownsRow wq.heap.size 26 3 v2 (l.take k ++ [(sp, (p1, p2))]).length (flat (l.take k ++ [(sp, (p1, p2))]))) := own_app rfl rfl hown2; have HB3 : Hid (Below wq.heap.size wq w2) := own_grow HW1.out (HB2.out.alloc HB2.out.size _) hgrow2 HS2.out; clear hown2 hgrow2 hat2 d0 d1 d2)
                | (at_builtin; refine wpList_append_own_at _ rfl (.tmp 47) (.tmp 50) 22 rfl wq.heap.size 26 i0 (.agg #[.string ⟨#[]⟩, .int .i64 0, .int .i64 0]) 3 32 Tryd.underlying22 hi0 hz0 hz1 hz2 rfl (by decide) v2 _ _ rfl HW2.out ⟨b, o + k * 3, none⟩ (n - k) (c - k) (flat (l.drop k)) rfl HF3.out (HD.out _ HB3.out) (flat_one _) hm5 hm6 HB3.out.size ?_; intro v3 w3 hown3 hgrow3 _ hat3; have HW3 : Hid (w3.ownsRow wq.heap.size 26 3 v3 ((l.take k ++ [(sp, (p1, p2))]) ++ l.drop k).length (flat ((l.take k ++ [(sp, (p1, p2))]) ++ l.drop k))) := own_app rfl HLD.out hown3; have HB4 : Hid (Below w.heap.size w w3) := bel KQ.out (own_grow HW2.out HB3.out hgrow3 HB3.out.size); clear hown3 hgrow3 hat3))
              go_ret2
              refine ⟨_, by rw [HWM.out]; rfl, ?_, HB4.out⟩
              have h9 := own_mks HW3.out
              rw [List.append_assoc] at h9
              rw [HWL.out]
              exact ⟨h9, Or.inr ((La.Lies.own HW3.out).mono KQ.out.size)⟩
      · rw [hq] at C
        have H3 : Hid (∀ j, j < k + 1 → mlt (l.getD j none1) (sp, (p1, p2)) = true) := by
          intro j hj
          rcases Nat.lt_succ_iff_lt_or_eq.1 hj with h | rfl
          · exact H1.out j h
          · rw [← HX.out]; exact hq
        clear hq
        go_wp2_with fail
        go_region_held3 (fun W => W.cell? ⟨b, o + k * 3, none⟩ = some (.string sx) ∧ W.cell? ⟨b, o + k * 3 + 1, none⟩ = some (.int .i64 x1) ∧ W.cell? ⟨b, o + k * 3 + 2, none⟩ = some (.int .i64 x2) ∧ W.cell? ⟨w.heap.size, 0, none⟩ = some (.string sp) ∧ W.cell? ⟨w.heap.size, 1, none⟩ = some (.int .i64 p1) ∧ W.cell? ⟨w.heap.size, 2, none⟩ = some (.int .i64 p2)) (first | (go_keep; done) | (refine ⟨keep_cell hb7 ?_, keep_cell hb7 ?_, keep_cell hb7 ?_, keep_cell hb7 ?_, keep_cell hb7 ?_, keep_cell hb7 ?_⟩ <;> (go_split_ands; assumption))) (first
          | (go_at_call 33; refine (C _).mono ?_; rintro e w7 ⟨rfl, hb7⟩; have HB7 : Hid (Below w.heap.size w w7) := bel KB.out.drew hb7; have HC7 : Hid (Below wr.heap.size wr w7) := bel (Below.refl _ wr).drew hb7))
        all_goals
          go_wp2_with fail
          go_roundw
          case rel => exact ⟨k + 1, by omega, by go_num, H3, HB7, ⟨keep_cell HC7.out d0, keep_cell HC7.out d1, keep_cell HC7.out d2⟩⟩
          case measure => simp [intOf]; omega
    · obtain rfl : k = n := by omega
      have HP : Hid (pos mlt l (sp, (p1, p2)) = k) := pos_eq HR.out (by rw [HL.out]; exact Nat.le_refl _) H1.out (fun j h1 h2 => by rw [HL.out] at h2; omega)
      have HTH : Hid (there l (sp, (p1, p2)) = false) := by
        unfold Hid; rw [there_pos HR.out, HP.out, decide_eq_false (by rw [HL.out]; omega)]; rfl
      have hkd : decide (k < k) = false := decide_eq_false (by omega)
      by_cases h40 : 40 ≤ k
      · have HWM : Hid (withM l (sp, (p1, p2)) = 4) := by unfold Hid withM; rw [if_neg (by rw [HTH.out]; decide), if_pos (by rw [HL.out]; exact h40)]
        have HWL : Hid (withL l (sp, (p1, p2)) = []) := by unfold Hid withL; rw [HWM.out]; rfl
        have hz : (40 : Int) ≤ k := by omega
        go_wp2_with fail
        go_quiet (fail)
        go_wp2_with fail
        go_quiet (fail)
        generalize hwq : World.drewN _ _ = wq
        have KQ : Hid (Below w.heap.size w wq) := by rw [← hwq]; exact bel_drew (bel_drew KB.out _) _
        clear hwq
        go_wp2_with fail
        go_ret2
        exact ⟨_, by rw [HWM.out]; rfl, by rw [HWL.out]; exact ⟨MksAt.nil _, Or.inr (La.Lies.nil _)⟩, KQ.out⟩
      · have HWM : Hid (withM l (sp, (p1, p2)) = 0) := by unfold Hid withM; rw [if_neg (by rw [HTH.out]; decide), if_neg (by rw [HL.out]; exact h40)]
        have HWL : Hid (withL l (sp, (p1, p2)) = l.take k ++ (sp, (p1, p2)) :: l.drop k) := by unfold Hid withL; rw [if_pos HWM.out, ins_at HTH.out, HP.out]
        clear HTH HP
        go_wp2_with fail
        go_quiet (fail)
        go_wp2_with fail
        go_quiet (fail)
        generalize hwq : World.drewN _ _ = wq
        have KQ : Hid (Below w.heap.size w wq) := by rw [← hwq]; exact bel_drew (bel_drew KB.out _) _
        have g0 : wq.cell? ⟨w.heap.size, 0, none⟩ = some (.string sp) := by rw [← hwq]; exact d0
        have g1 : wq.cell? ⟨w.heap.size, 1, none⟩ = some (.int .i64 p1) := by rw [← hwq]; exact d1
        have g2 : wq.cell? ⟨w.heap.size, 2, none⟩ = some (.int .i64 p2) := by rw [← hwq]; exact d2
        clear hwq d0 d1 d2 KB
        have hz : ¬ (40 : Int) ≤ k := by omega
        have hn40 : k < 40 := by omega
        clear h40
        have hiz : (k : Int) ≤ k := by omega
        have hicz : (k : Int) ≤ c := by omega
        obtain ⟨ad, had⟩ : ∃ ad, (if c = k then some (⟨b, o, none⟩ : Addr) else some ⟨b, o + k * 3, none⟩) = some ad := by
          by_cases e : c = k
          · exact ⟨⟨b, o, none⟩, by rw [if_pos e]⟩
          · exact ⟨⟨b, o + k * 3, none⟩, by rw [if_neg e]⟩
        have HT : Hid (∀ W, Below wq.heap.size wq W → ∀ j u, (flat (l.take k))[j]? = some u → W.cell? ((⟨b, o, none⟩ : Addr).add j) = some u) := by
          intro W hb j u hu
          have h2 : ∀ j, j < l.length → MAt W b o j (l.getD j none1) := fun j hj => ((HCS.out j hj).below KQ.out (HCS.out j hj).lt).below hb (((HCS.out j hj).below KQ.out (HCS.out j hj).lt).lt)
          rcases take_part (i := k) (c := c) (by rw [HL.out]; omega) h2 with ⟨e, _⟩ | ⟨ad2, c2, e, hc2⟩
          · cases e
          · injection e with e1 e2 e3
            injection e1 with e1
            rw [e1]; exact hc2 j u hu
        have HD : Hid (∀ W, Below wq.heap.size wq W → ∀ j u, (flat (l.drop k))[j]? = some u → W.cell? (ad.add j) = some u) := by
          intro W hb j u hu
          have h2 : ∀ j, j < l.length → MAt W b o j (l.getD j none1) := fun j hj => ((HCS.out j hj).below KQ.out (HCS.out j hj).lt).below hb (((HCS.out j hj).below KQ.out (HCS.out j hj).lt).lt)
          rcases drop_part HL.out (by omega) hnc had h2 with ⟨e, _⟩ | ⟨ad2, c2, e, hc2⟩
          · cases e
          · injection e with e1 e2 e3
            injection e1 with e1
            rw [e1]; exact hc2 j u hu
        have HLT : Hid ((l.take k).length = k) := by unfold Hid; rw [List.length_take, HL.out]; omega
        have HLD : Hid ((l.drop k).length = 0) := by unfold Hid; have h9 := List.length_drop (l := l) (i := k); rw [HL.out] at h9; omega
        have HF1 : Hid ((flat (l.take k)).length = k * 3) := by unfold Hid; rw [flat_length, HLT.out]
        have HF3 : Hid ((flat (l.drop k)).length = 0 * 3) := by unfold Hid; rw [flat_length, HLD.out]
        have hm1 : 0 + k ≤ maxLen := by unfold maxLen; omega
        have hm2 : (0 + k) * 32 ≤ 140737488355328 := by omega
        have hm3 : (l.take k).length + 1 ≤ maxLen := by rw [HLT.out]; unfold maxLen; omega
        have hm4 : ((l.take k).length + 1) * 32 ≤ 140737488355328 := by rw [HLT.out]; omega
        have hm5 : (l.take k ++ [(sp, (p1, p2))]).length + 0 ≤ maxLen := by rw [List.length_append, HLT.out]; unfold maxLen; simp; omega
        have hm6 : ((l.take k ++ [(sp, (p1, p2))]).length + 0) * 32 ≤ 140737488355328 := by rw [List.length_append, HLT.out]; simp; omega
        go_wp2_with (first
          | (at_builtin; refine wpList_append_own_at _ rfl (.tmp 38) (.tmp 41) 22 rfl wq.heap.size 26 i0 (.agg #[.string ⟨#[]⟩, .int .i64 0, .int .i64 0]) 3 32 Tryd.underlying22 hi0 hz0 hz1 hz2 rfl (by decide) (.slice none 0 0) 0 [] rfl (World.ownsRow_nil _ _ _ _) ⟨b, o, none⟩ k c (flat (l.take k)) rfl HF1.out (HT.out _ (Below.refl _ _)) (flat_one _) hm1 hm2 (Nat.le_refl _) ?_; intro v1 w1 hown1 hgrow1 _ hat1; have HW1 : Hid (w1.ownsRow wq.heap.size 26 3 v1 (l.take k).length (flat (l.take k))) := (by have h9 := hown1; rw [Nat.zero_add, List.nil_append] at h9; rw [HLT.out]; exact h9); have HB2 : Hid (Below wq.heap.size wq w1) := (Below.refl _ _).grown hgrow1 (Nat.le_refl _) (fun k hk => by cases hk); have d0 := keep_cell HB2.out g0; have d1 := keep_cell HB2.out g1; have d2 := keep_cell HB2.out g2; have HS2 : Hid (wq.heap.size ≤ (w1.alloc (.cells #[.string sp, .int .i64 p1, .int .i64 p2] 26)).heap.size) := Nat.le_trans HB2.out.size (alloc_le _ _); clear hown1 hgrow1 hat1)
          | (at_builtin; refine wpList_append_own_at _ rfl (.tmp 43) (.tmp 45) 22 rfl wq.heap.size 26 i0 (.agg #[.string ⟨#[]⟩, .int .i64 0, .int .i64 0]) 3 32 Tryd.underlying22 hi0 hz0 hz1 hz2 rfl (by decide) v1 _ _ rfl (HW1.out.alloc _) ⟨w1.heap.size, 0, none⟩ 1 1 (flat [(sp, (p1, p2))]) rfl rfl (mark_new w1 (sp, (p1, p2)) _) (flat_one _) hm3 hm4 HS2.out ?_; intro v2 w2 hown2 hgrow2 _ hat2; have HW2 : Hid (w2.ownsRow wq.heap.size 26 3 v2 (l.take k ++ [(sp, (p1, p2))]).length (flat (l.take k ++ [(sp, (p1, p2))]))) := own_app rfl rfl hown2; have HB3 : Hid (Below wq.heap.size wq w2) := own_grow HW1.out (HB2.out.alloc HB2.out.size _) hgrow2 HS2.out; clear hown2 hgrow2 hat2 d0 d1 d2)
          | (at_builtin; refine wpList_append_own_at _ rfl (.tmp 47) (.tmp 50) 22 rfl wq.heap.size 26 i0 (.agg #[.string ⟨#[]⟩, .int .i64 0, .int .i64 0]) 3 32 Tryd.underlying22 hi0 hz0 hz1 hz2 rfl (by decide) v2 _ _ rfl HW2.out ad 0 (c - k) (flat (l.drop k)) rfl HF3.out (HD.out _ HB3.out) (flat_one _) hm5 hm6 HB3.out.size ?_; intro v3 w3 hown3 hgrow3 _ hat3; have HW3 : Hid (w3.ownsRow wq.heap.size 26 3 v3 ((l.take k ++ [(sp, (p1, p2))]) ++ l.drop k).length (flat ((l.take k ++ [(sp, (p1, p2))]) ++ l.drop k))) := own_app rfl HLD.out hown3; have HB4 : Hid (Below w.heap.size w w3) := bel KQ.out (own_grow HW2.out HB3.out hgrow3 HB3.out.size); clear hown3 hgrow3 hat3))
        go_ret2
        refine ⟨_, by rw [HWM.out]; rfl, ?_, HB4.out⟩
        have h9 := own_mks HW3.out
        rw [List.append_assoc] at h9
        rw [HWL.out]
        exact ⟨h9, Or.inr ((La.Lies.own HW3.out).mono KQ.out.size)⟩

end Wd
end Go.Proofs.YtcmoajlcmeimiaaDoor
