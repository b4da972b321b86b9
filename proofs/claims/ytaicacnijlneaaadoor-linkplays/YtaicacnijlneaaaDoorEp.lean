/- Package link: Hear, at any frame. -/
import Derived.Test.YtaicacnijlneaaaDoorEo
namespace Go.Proofs.YtaicacnijlneaaaDoor
namespace Ep
set_option linter.unusedVariables false
set_option linter.unusedSimpArgs false
open Go.ChangeShapes Go.WideShapes Go.ChangeAt Go.RowKit Ka Kb Ec Ef Eg Em En Eo

set_option maxHeartbeats 2000000 in
theorem hear_next (X : Nat) (q : Int) (d : ByteArray) (w : World) (a b k s t : Int) (u g : Value) (o : Bool) (lu lg : List ByteArray) (m : Raw w X a b u k s t g o lu lg) (hd : d.size ≤ 200) (hq : q = (lg.length : Int) + 1) (hl : lg.length ≤ 1000) :
    Calls Tryd.prog 12 #[ptr X, frV false q d] w fun e w' => e = .returned .nilIface ∧ ∃ g', Raw w' X a b u k s t g' true lu (lg ++ [d]) ∧ Chg (Fs X u g) w w' ∧ ∀ k, Fs X u g' k → Fs X u g k ∨ w.heap.size ≤ k := by
  obtain ⟨p, n, c, rfl, hn⟩ := own_shape m.rg
  have b0 := blk_cell (heap_alloc_new w (frO false q d)) (i := 0) (u := .bool false) rfl
  have b1 := blk_cell (heap_alloc_new w (frO false q d)) (i := 1) (u := .int .i64 q) rfl
  have b2 := blk_cell (heap_alloc_new w (frO false q d)) (i := 2) (u := .string d) rfl
  have m1 := m.below (below_al w (frO false q d))
  have c7 := blk_cell m1.blk (i := 7) (u := .bool o) rfl
  have f7 := blk_free m1.blk (i := 7)
  have h : ¬ q < 1 := by omega
  have hdz : ¬ (200 : Int) < d.size := by omega
  have hn9 : n ≤ 1000 := by rw [hn.out]; exact hl
  have hqe : (q == (n : Int) + 1) = true := by rw [hn.out, hq]; simp
  have hwr : IntKind.i64.wrap ((n : Int) + 1) = (n : Int) + 1 := wrap_in (by omega) (by omega)
  have HXW : Hid (X ≠ w.heap.size) := Nat.ne_of_lt (m.lt X (Or.inl rfl))
  have HM1 := Hid.mk' m1
  have HL : Hid (lg.length ≤ 1000) := hl
  have HNW := Hid.mk' (heap_alloc_new w (frO false q d))
  clear m m1 hl hn hq hd
  go_enter Tryd.func12, Tryd.ntmps12
  go_wp2_with fail
  generalize hw2 : World.setCell _ _ _ = w2
  have m2 : Raw w2 X a b u k s t (.slice p n c) true lu lg := by rw [← hw2]; exact HM1.out.num rfl
  have HC2 : Hid (Chg (Fs X u (.slice p n c)) w w2) := by rw [Hid, ← hw2]; exact Chg.setCell (F := Fs X u (.slice p n c)) (Chg.ofBelow (below_al _ _) _) (p := ⟨X, 7, none⟩) (Or.inl rfl) _
  have HN2 : Hid (w2.heap[w.heap.size]? = some (frO false q d)) := by rw [Hid, ← hw2, set_block _ _ _ _ (Ne.symm HXW.out)]; exact HNW.out
  have x2 := blk_cell HN2.out (i := 1) (u := .int .i64 q) rfl
  have x6 := blk_cell m2.blk (i := 6) (u := .slice p n c) rfl
  have HM2 := Hid.mk' m2
  clear hw2 m2 c7 f7 b0 b1 b2 HM1 HNW
  go_wp2_with fail
  go_quiet (fail)
  go_wp2_with fail
  generalize hw3 : World.drewN _ _ = w3
  have HB3 : Hid (Below w2.heap.size w2 w3) := by rw [Hid, ← hw3]; exact bel_drew (Below.refl _ _) _
  have HM3 : Hid (Raw w3 X a b u k s t (.slice p n c) true lu lg) := HM2.out.below HB3.out
  have HN3 : Hid (w3.heap[w.heap.size]? = some (frO false q d)) := by rw [Hid, ← hw3]; exact HN2.out
  have y6 := blk_cell HM3.out.blk (i := 6) (u := .slice p n c) rfl
  have y2 := blk_cell HN3.out (i := 2) (u := .string d) rfl
  have HBB : Hid (∀ O, Below w3.heap.size w3 (w3.alloc O).drew) := fun O => ((Below.refl _ w3).alloc (Nat.le_refl _) O).drew
  have HMA : Hid (∀ O, Raw (w3.alloc O).drew X a b u k s t (.slice p n c) true lu lg) := fun O => HM3.out.below (HBB.out O)
  have q8 := fun O => blk_cell (HMA.out O).blk (i := 6) (u := .slice p n c) rfl
  have q7 : ∀ O, (w3.alloc O).cell? ⟨X, 6, none⟩ = some (.slice p n c) := q8
  clear hw3 x2 x6 hqe hwr
  go_region_law (
    (refine step_putT (by rfl) (.tmp 35) (.tmp 38) (by rfl) (.slice p n c) lg d (by rfl) w3.heap.size (by rfl) (by have := HL.out; omega) ((HMA.out _).rg) (heap_alloc_new w3 _) ?_; intro v9 w9 hr9 hg9 hl9; obtain ⟨p9, n9, c9, rfl, _⟩ := own_shape hr9; have HC9 : Hid (Chg (fun k => (Value.slice p n c).ownBlock = some k) w3 w9) := (Chg.ofBelow (HBB.out _) _).trans (Chg.grown hg9 (fun g e => e)); have hbk9 := (HC9.out.block X (HM3.out.lt X (Or.inl rfl)) (fun e => no_end HM3.out.rg HM3.out.blk X e rfl)).trans HM3.out.blk; have q9 := blk_cell hbk9 (i := 6) (u := .slice p n c) rfl; have fq9 := blk_free hbk9 (i := 6); have HR9 := Hid.mk' hr9; have HL9 : Hid (∀ k, (Value.slice p9 n9 c9).ownBlock = some k → (Value.slice p n c).ownBlock = some k ∨ w3.heap.size ≤ k) := at_new hl9 (HBB.out _).size; clear hr9 hg9 hl9 hbk9))
  all_goals
    go_wp2_with fail
    go_ret
    obtain ⟨r1, r2, r3⟩ := HM3.out.set_g HC9.out HR9.out HL9.out
    refine ⟨rfl, _, r1, (HC2.out.trans (Chg.ofBelow HB3.out _)).trans r2, fun k hk => (r3 k hk).imp id (fun e => ?_)⟩
    have h1 := HC2.out.size
    have h2 := HB3.out.size
    omega

theorem end_hear (X : Nat) (s : Ln) (F : Nat → Prop) (f1 : Bool) (q : Int) (d : ByteArray) (w : World) (h : At w X s F) (hf : Fit s) (hd : d.size ≤ maxLen) : Calls Tryd.prog 12 #[ptr X, .agg #[.bool f1, .int .i64 q, .string d]] w fun e w' => e = .returned (errV (hearE s (f1, q, d))) ∧ ∃ F', At w' X (hearS s (f1, q, d)) F' ∧ Chg F w w' ∧ ∀ g, F' g → F g ∨ w.heap.size ≤ g := by
  have h0 := h
  obtain ⟨hi, u, g, m, hF⟩ := h
  have hsd := hi.sd
  have hak := hi.ak
  have hf1 := hf.1
  have hf2 := hf.2.1
  have stays : ∀ n : Int, n ≠ 0 → hearE s (f1, q, d) = n → hearS s (f1, q, d) = s := fun n hn e => by unfold hearS; rw [e, if_pos hn]
  cases f1 with
  | true =>
    have hm1 := m.below (below_al w (frO true q d))
    have back : ∀ n : Int, n ≠ 0 → hearE s (true, q, d) = n → Calls Tryd.prog 18 #[ptr X, frV true q d] (w.alloc (frO true q d)) (fun e w' => e = .returned (.iface 45 (.int .i64 n)) ∧ Below (w.alloc (frO true q d)).heap.size (w.alloc (frO true q d)) w') → Calls Tryd.prog 12 #[ptr X, .agg #[.bool true, .int .i64 q, .string d]] w fun e w' => e = .returned (errV (hearE s (true, q, d))) ∧ ∃ F', At w' X (hearS s (true, q, d)) F' ∧ Chg F w w' ∧ ∀ g, F' g → F g ∨ w.heap.size ≤ g := by
      intro n hn he C
      refine (hear_true X q d w (fun v w' => v = .iface 45 (.int .i64 n) ∧ Below (w.alloc (frO true q d)).heap.size (w.alloc (frO true q d)) w') (C.mono (by rintro e w' ⟨rfl, hb⟩; exact ⟨_, rfl, rfl, hb⟩))).mono ?_
      rintro e w' ⟨v, rfl, rfl, hb⟩
      rw [stays n hn he, he, errV_ne hn]
      exact ⟨rfl, left_same h0 (bel (below_al _ _) hb)⟩
    by_cases h1 : q < 0
    · exact back 1 (by decide) (by unfold hearE; rw [if_pos rfl, if_pos (Or.inl h1)]) (ack_low X true q d _ _ _ _ _ _ u g _ _ _ hm1 h1)
    · by_cases h2 : (s.said : Int) < q
      · exact back 1 (by decide) (by unfold hearE; rw [if_pos rfl, if_pos (Or.inr h2)]) (ack_high X true q d _ _ _ _ _ _ u g _ _ _ hm1 h1 h2)
      · by_cases h3 : d.size = 0
        · have hd0 : d = e0 := by
            obtain ⟨D⟩ := d
            have : D = #[] := Array.eq_empty_of_size_eq_zero h3
            rw [this]; rfl
          subst hd0
          have he : hearE s (true, q, e0) = 0 := by unfold hearE; rw [if_pos rfl, if_neg (by intro e; rcases e with e | e; exact h1 e; exact h2 e), if_neg (by simpa using h3)]
          have hS : hearS s (true, q, e0) = { s with acked := max s.acked q.toNat } := by unfold hearS; rw [he, if_neg (by decide)]; rfl
          have hi2 : Inv (hearS s (true, q, e0)) := inv_hear hi
          rw [hS] at hi2 ⊢
          rw [he]
          by_cases h4 : (s.acked : Int) < q
          · have hmx : max s.acked q.toNat = q.toNat := by omega
            obtain ⟨p, n, c, rfl, hn⟩ := own_shape m.ru
            refine (hear_true X q e0 w (fun v w' => v = .nilIface ∧ ∃ u', Raw w' X s.win s.wait u' q s.said (min s.ticks s.wait : Nat) g s.owes ((s.all.drop s.acked).drop (q.toNat - s.acked)) s.got ∧ Chg (Fs X (.slice p n c) g) (w.alloc (frO true q e0)) w' ∧ ∀ k, Fs X u' g k → Fs X (.slice p n c) g k ∨ (w.alloc (frO true q e0)).heap.size ≤ k) ((ack_new X true q _ _ _ _ _ _ p n c g _ _ _ hm1 (q.toNat - s.acked) (by omega) h1 h2 h4 (by omega) (by rw [List.length_drop]; omega) (by omega)).mono (by rintro e w' ⟨rfl, hr⟩; exact ⟨_, rfl, rfl, hr⟩))).mono ?_
            rintro e w' ⟨v, rfl, rfl, u', r1, r2, r3⟩
            refine ⟨rfl, left_mk hF hi2 (u' := u') (g' := g) ?_ ((Chg.ofBelow (below_al _ _) _).trans r2) (fun k hk => (r3 k hk).imp id (fun e => Nat.le_trans (below_al _ _).size e))⟩
            show Raw w' X s.win s.wait u' (max s.acked q.toNat : Nat) s.said (min s.ticks s.wait : Nat) g s.owes (s.all.drop (max s.acked q.toNat)) s.got
            rw [hmx, show ((q.toNat : Nat) : Int) = q by omega]
            rw [List.drop_drop, show s.acked + (q.toNat - s.acked) = q.toNat by omega] at r1
            exact r1
          · have hmx : max s.acked q.toNat = s.acked := by omega
            rw [hmx]
            refine (hear_true X q e0 w (fun v w' => v = .nilIface ∧ Below (w.alloc (frO true q e0)).heap.size (w.alloc (frO true q e0)) w') ((ack_old X true q _ _ _ _ _ _ u g _ _ _ hm1 h1 h2 h4).mono (by rintro e w' ⟨rfl, hb⟩; exact ⟨_, rfl, rfl, hb⟩))).mono ?_
            rintro e w' ⟨v, rfl, rfl, hb⟩
            exact ⟨rfl, left_same h0 (bel (below_al _ _) hb)⟩
        · exact back 3 (by decide) (by unfold hearE; rw [if_pos rfl, if_neg (by intro e; rcases e with e | e; exact h1 e; exact h2 e), if_pos h3]) (ack_shape X true q d _ _ _ _ _ _ u g _ _ _ hm1 h1 h2 h3)
  | false =>
    have back : ∀ n : Int, n ≠ 0 → hearE s (false, q, d) = n → Calls Tryd.prog 12 #[ptr X, frV false q d] w (fun e w' => e = .returned (.iface 45 (.int .i64 n)) ∧ Below w.heap.size w w') → Calls Tryd.prog 12 #[ptr X, .agg #[.bool false, .int .i64 q, .string d]] w fun e w' => e = .returned (errV (hearE s (false, q, d))) ∧ ∃ F', At w' X (hearS s (false, q, d)) F' ∧ Chg F w w' ∧ ∀ g, F' g → F g ∨ w.heap.size ≤ g := by
      intro n hn he C
      refine C.mono ?_
      rintro e w' ⟨rfl, hb⟩
      rw [stays n hn he, he, errV_ne hn]
      exact ⟨rfl, left_same h0 hb⟩
    by_cases h1 : q < 1
    · exact back 1 (by decide) (by unfold hearE; rw [if_neg (show ¬ (false = true) by decide), if_pos h1]) (hear_low X q d w h1)
    · by_cases h2 : 200 < d.size
      · exact back 4 (by decide) (by unfold hearE; rw [if_neg (show ¬ (false = true) by decide), if_neg h1, if_pos h2]) (hear_long X q d w h1 h2 hd)
      · have he : hearE s (false, q, d) = 0 := by unfold hearE; rw [if_neg (show ¬ (false = true) by decide), if_neg h1, if_neg h2]
        have hi2 : Inv (hearS s (false, q, d)) := inv_hear hi
        have hS : hearS s (false, q, d) = { s with got := if q = (s.got.length : Int) + 1 then s.got ++ [d] else s.got, owes := true } := by unfold hearS; rw [he, if_neg (by decide)]; rfl
        rw [hS] at hi2 ⊢
        rw [he]
        by_cases h3 : q = (s.got.length : Int) + 1
        · rw [if_pos h3] at hi2 ⊢
          refine (hear_next X q d w _ _ _ _ _ u g _ _ _ m (by omega) h3 (by omega)).mono ?_
          rintro e w' ⟨rfl, g', r1, r2, r3⟩
          exact ⟨rfl, left_mk hF hi2 r1 r2 r3⟩
        · rw [if_neg h3] at hi2 ⊢
          refine (hear_other X q d w _ _ _ _ _ u g _ _ _ m h1 (by omega) h3 (by omega)).mono ?_
          rintro e w' ⟨rfl, r1, r2⟩
          exact ⟨rfl, left_mk hF hi2 r1 r2 (fun k e => Or.inl e)⟩

end Ep
end Go.Proofs.YtaicacnijlneaaaDoor
