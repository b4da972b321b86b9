/- What marks.Cut answers with one mark more. -/
import Derived.Test.YtcmoajlcmeimiaaDoorNg
namespace Go.Proofs.YtcmoajlcmeimiaaDoor
namespace Nh
set_option linter.unusedVariables false
open Go.ChangeShapes Go.WideShapes Go.ChangeAt Go.RowKit Cm Ka Kb Na Nb Nc Nd Nse Nf Ng
open La (bel bel_drew errV_zero errV_ne own_ge own_grow own_below)

theorem pos_nil (m : Mk) : pos mlt [] m = 0 := rfl
theorem there_nil (m : Mk) : there ([] : List Mk) m = false := by rw [there]; simp
theorem ins_new {l : List Mk} {m : Mk} (h : there l m = false) : ins mlt l m = l.take (pos mlt l m) ++ m :: l.drop (pos mlt l m) := by
  unfold ins
  rw [if_neg]
  intro h2
  rw [there_iff.2 h2] at h; cases h

set_option maxRecDepth 100000 in
set_option maxHeartbeats 4000000 in
theorem cut_new (b o n c : Nat) (l : List Mk) (sp : ByteArray) (p1 p2 : Int) (w : World) (hl : l.length = n) (hcs : ∀ j, j < l.length → MAt w b o j (l.getD j none1)) (hcc : n ≤ c) (hcm : c ≤ maxLen) (hs : ∀ x ∈ l, x.1.size ≤ maxLen) (hp : sp.size ≤ maxLen) (h0 : marksE l = 0) (hm0 : markE (sp, (p1, p2)) = 0) (ht : there l (sp, (p1, p2)) = false) (h40 : n < 40) :
    Calls Tryd.prog 11 #[.slice (some ⟨b, o, none⟩) n c, .agg #[.string sp, .int .i64 p1, .int .i64 p2]] w fun e w' => ∃ v', e = .returned (.tuple #[v', .nilIface]) ∧ MksNew w.heap.size w' v' (ins mlt l (sp, (p1, p2))) ∧ Below w.heap.size w w' := by
  have hlf : MarksIn w (some ⟨b, o, none⟩) l := Or.inr ⟨b, o, rfl, hcs⟩
  have hA : MksAt w (.slice (some ⟨b, o, none⟩) n c) l := ⟨_, c, by rw [hl], hlf, by omega, hcm, fun h => by cases h⟩
  have hb1 : Below w.heap.size w (w.alloc (.cells #[.string sp, .int .i64 p1, .int .i64 p2] 26)) := (Below.refl _ w).alloc (Nat.le_refl _) _
  have C := checkM_any _ l _ (hA.below hb1) hs
  rw [h0, errV_zero] at C
  have C2 := fun W => checkMark_any sp p1 p2 W hp
  rw [hm0, errV_zero] at C2
  obtain ⟨hl40, _, hr⟩ := marksE_zero.1 h0
  have HC3 : Hid (∀ w2, Below w.heap.size w w2 → Calls Tryd.prog 38 #[.slice (some ⟨b, o, none⟩) n c, .agg #[.string sp, .int .i64 p1, .int .i64 p2], .func (.func 36) #[] #[]] w2 fun e w' => e = .returned (.tuple #[.int .i64 (pos mlt l (sp, (p1, p2))), .bool false]) ∧ Below w2.heap.size w2 w') := fun w2 hb => by
    have := search_any (some ⟨b, o, none⟩) n c l sp p1 p2 w2 hl (hlf.below hb) hr (by omega)
    rw [ht] at this; exact this
  have HPL : Hid (ins mlt l (sp, (p1, p2)) = l.take (pos mlt l (sp, (p1, p2))) ++ (sp, (p1, p2)) :: l.drop (pos mlt l (sp, (p1, p2)))) := ins_new ht
  have hle := pos_le (lt := mlt) l (sp, (p1, p2))
  rw [hl] at hle
  obtain ⟨i, hi⟩ : ∃ i, i = pos mlt l (sp, (p1, p2)) := ⟨_, rfl⟩
  rw [← hi] at HC3 HPL hle
  have hz : ¬ (40 : Int) ≤ n := by omega
  have hiz : (i : Int) ≤ n := by omega
  have hicz : (i : Int) ≤ c := by omega
  unfold maxLen at hcm
  obtain ⟨ad, had⟩ : ∃ ad, (if c = i then some (⟨b, o, none⟩ : Addr) else some ⟨b, o + i * 3, none⟩) = some ad := by
    by_cases e : c = i
    · exact ⟨⟨b, o, none⟩, by rw [if_pos e]⟩
    · exact ⟨⟨b, o + i * 3, none⟩, by rw [if_neg e]⟩
  have HCC : Hid (∀ w2, Below w.heap.size w w2 → Calls Tryd.prog 40 #[.slice (some ⟨w2.heap.size + 1, 0, none⟩) 3 3] (threeW w2 (sp, (p1, p2)) (.slice (some ⟨b, o, none⟩) i c) (.slice (some ad) (n - i) (c - i))) fun e w' => ∃ v, e = .returned v ∧ MksNew w2.heap.size w' v (l.take i ++ (sp, (p1, p2)) :: l.drop i) ∧ Below w2.heap.size w2 w') := by
    intro w2 hb
    have h2 : ∀ j, j < l.length → MAt w2 b o j (l.getD j none1) := fun j hj => (hcs j hj).below hb (hcs j hj).lt
    refine concat_three w2 (sp, (p1, p2)) _ _ _ _ (take_part (by omega) h2) (drop_part hl hle hcc had h2) ?_
    rw [List.length_append, List.length_cons, List.length_take, List.length_drop]; omega
  clear hl hcs hlf hA hr ht hi hb1 h0 hm0 hs hp hl40
  go_enter Tryd.func11, Tryd.ntmps11
  go_wp2_with fail
  refine C.mono ?_
  rintro e w2 ⟨rfl, hb2⟩
  have HB2 : Hid (Below w.heap.size w w2) := bel_new (Below.refl _ w) hb2
  obtain ⟨d0, d1, d2⟩ := new_cell (x := (sp, (p1, p2))) hb2
  simp only at d0 d1 d2
  clear hb2 C
  go_wp2_with fail
  refine (C2 w2).mono ?_
  rintro e w3 ⟨rfl, hb3⟩
  have HB3 : Hid (Below w.heap.size w w3) := bel HB2.out hb3
  have e0 := keep_cell hb3 d0
  have e1 := keep_cell hb3 d1
  have e2 := keep_cell hb3 d2
  clear hb3 C2 d0 d1 d2
  have C3 := HC3.out w3 HB3.out
  go_wp2_with fail
  refine C3.mono ?_
  rintro e w4 ⟨rfl, hb4⟩
  have HB4 : Hid (Below w.heap.size w w4) := bel HB3.out hb4
  have f0 := keep_cell hb4 e0
  have f1 := keep_cell hb4 e1
  have f2 := keep_cell hb4 e2
  clear hb4 C3 e0 e1 e2
  have C5 := HCC.out w4 HB4.out
  unfold threeW at C5
  simp only at C5
  go_wp2_with fail
  go_region_with (go_at_call 40; refine C5.mono ?_; rintro e w6 ⟨v6, rfl, hk6, hb6⟩; have HK6 : Hid (MksNew w.heap.size w6 v6 (l.take i ++ (sp, (p1, p2)) :: l.drop i)) := hk6.mono HB4.out.size; have HB6 : Hid (Below w.heap.size w w6) := bel HB4.out hb6; clear hk6 hb6)
  all_goals
    go_wp2_with fail
    go_ret2
    exact ⟨_, rfl, by rw [HPL.out]; exact HK6.out, HB6.out⟩

set_option maxRecDepth 100000 in
set_option maxHeartbeats 4000000 in
theorem cut_none  (sp : ByteArray) (p1 p2 : Int) (w : World) (hA : MksAt w (.slice none 0 0) []) (hp : sp.size ≤ maxLen) (hm0 : markE (sp, (p1, p2)) = 0) :
    Calls Tryd.prog 11 #[.slice none 0 0, .agg #[.string sp, .int .i64 p1, .int .i64 p2]] w fun e w' => ∃ v', e = .returned (.tuple #[v', .nilIface]) ∧ MksNew w.heap.size w' v' (ins mlt [] (sp, (p1, p2))) ∧ Below w.heap.size w w' := by
  have hb1 : Below w.heap.size w (w.alloc (.cells #[.string sp, .int .i64 p1, .int .i64 p2] 26)) := (Below.refl _ w).alloc (Nat.le_refl _) _
  have C := checkM_any _ [] _ (hA.below hb1) (by intro x hx; simp at hx)
  rw [show marksE [] = 0 from rfl, errV_zero] at C
  have C2 := fun W => checkMark_any sp p1 p2 W hp
  rw [hm0, errV_zero] at C2
  have HC3 : Hid (∀ w2, Below w.heap.size w w2 → Calls Tryd.prog 38 #[.slice none 0 0, .agg #[.string sp, .int .i64 p1, .int .i64 p2], .func (.func 36) #[] #[]] w2 fun e w' => e = .returned (.tuple #[.int .i64 0, .bool false]) ∧ Below w2.heap.size w2 w') := fun w2 hb => by
    have := search_any none 0 0 [] sp p1 p2 w2 rfl (Or.inl rfl) List.Pairwise.nil (by omega)
    rw [there_nil, pos_nil] at this; exact this
  have HPL : Hid (ins mlt [] (sp, (p1, p2)) = [] ++ (sp, (p1, p2)) :: []) := ins_new (there_nil _)
  have HCC : Hid (∀ w2, Below w.heap.size w w2 → Calls Tryd.prog 40 #[.slice (some ⟨w2.heap.size + 1, 0, none⟩) 3 3] (threeW w2 (sp, (p1, p2)) (.slice none 0 0) (.slice none 0 0)) fun e w' => ∃ v, e = .returned v ∧ MksNew w2.heap.size w' v ([] ++ (sp, (p1, p2)) :: []) ∧ Below w2.heap.size w2 w') :=
    fun w2 _ => concat_three w2 (sp, (p1, p2)) _ _ [] [] (Or.inl ⟨rfl, rfl⟩) (Or.inl ⟨rfl, rfl⟩) (by simp)
  clear hA hp hm0 hb1
  go_enter Tryd.func11, Tryd.ntmps11
  go_wp2_with fail
  refine C.mono ?_
  rintro e w2 ⟨rfl, hb2⟩
  have HB2 : Hid (Below w.heap.size w w2) := bel_new (Below.refl _ w) hb2
  obtain ⟨d0, d1, d2⟩ := new_cell (x := (sp, (p1, p2))) hb2
  simp only at d0 d1 d2
  clear hb2 C
  go_wp2_with fail
  refine (C2 w2).mono ?_
  rintro e w3 ⟨rfl, hb3⟩
  have HB3 : Hid (Below w.heap.size w w3) := bel HB2.out hb3
  have e0 := keep_cell hb3 d0
  have e1 := keep_cell hb3 d1
  have e2 := keep_cell hb3 d2
  clear hb3 C2 d0 d1 d2
  have C3 := HC3.out w3 HB3.out
  go_wp2_with fail
  refine C3.mono ?_
  rintro e w4 ⟨rfl, hb4⟩
  have HB4 : Hid (Below w.heap.size w w4) := bel HB3.out hb4
  have f0 := keep_cell hb4 e0
  have f1 := keep_cell hb4 e1
  have f2 := keep_cell hb4 e2
  clear hb4 C3 e0 e1 e2
  have C5 := HCC.out w4 HB4.out
  unfold threeW at C5
  simp only at C5
  go_wp2_with fail
  go_region_with (go_at_call 40; refine C5.mono ?_; rintro e w6 ⟨v6, rfl, hk6, hb6⟩; have HK6 : Hid (MksNew w.heap.size w6 v6 ([] ++ (sp, (p1, p2)) :: [])) := hk6.mono HB4.out.size; have HB6 : Hid (Below w.heap.size w w6) := bel HB4.out hb6; clear hk6 hb6)
  all_goals
    go_wp2_with fail
    go_ret2
    exact ⟨_, rfl, by rw [HPL.out]; exact HK6.out, HB6.out⟩

set_option maxRecDepth 100000 in
set_option maxHeartbeats 4000000 in
theorem cut_empty (a : Addr) (c : Nat) (sp : ByteArray) (p1 p2 : Int) (w : World) (hA : MksAt w (.slice (some a) 0 c) []) (hp : sp.size ≤ maxLen) (hm0 : markE (sp, (p1, p2)) = 0) (hcm : c ≤ maxLen) :
    Calls Tryd.prog 11 #[.slice (some a) 0 c, .agg #[.string sp, .int .i64 p1, .int .i64 p2]] w fun e w' => ∃ v', e = .returned (.tuple #[v', .nilIface]) ∧ MksNew w.heap.size w' v' (ins mlt [] (sp, (p1, p2))) ∧ Below w.heap.size w w' := by
  have hb1 : Below w.heap.size w (w.alloc (.cells #[.string sp, .int .i64 p1, .int .i64 p2] 26)) := (Below.refl _ w).alloc (Nat.le_refl _) _
  have C := checkM_any _ [] _ (hA.below hb1) (by intro x hx; simp at hx)
  rw [show marksE [] = 0 from rfl, errV_zero] at C
  have C2 := fun W => checkMark_any sp p1 p2 W hp
  rw [hm0, errV_zero] at C2
  have HC3 : Hid (∀ w2, Below w.heap.size w w2 → Calls Tryd.prog 38 #[.slice (some a) 0 c, .agg #[.string sp, .int .i64 p1, .int .i64 p2], .func (.func 36) #[] #[]] w2 fun e w' => e = .returned (.tuple #[.int .i64 0, .bool false]) ∧ Below w2.heap.size w2 w') := fun w2 hb => by
    have := search_any (some a) 0 c [] sp p1 p2 w2 rfl (Or.inl rfl) List.Pairwise.nil (by omega)
    rw [there_nil, pos_nil] at this; exact this
  have HPL : Hid (ins mlt [] (sp, (p1, p2)) = [] ++ (sp, (p1, p2)) :: []) := ins_new (there_nil _)
  have HCC : Hid (∀ w2, Below w.heap.size w w2 → Calls Tryd.prog 40 #[.slice (some ⟨w2.heap.size + 1, 0, none⟩) 3 3] (threeW w2 (sp, (p1, p2)) (.slice (some a) 0 c) (.slice (some a) 0 c)) fun e w' => ∃ v, e = .returned v ∧ MksNew w2.heap.size w' v ([] ++ (sp, (p1, p2)) :: []) ∧ Below w2.heap.size w2 w') :=
    fun w2 _ => concat_three w2 (sp, (p1, p2)) _ _ [] [] (Or.inr ⟨a, c, rfl, fun j u hu => by simp [flat] at hu⟩) (Or.inr ⟨a, c, rfl, fun j u hu => by simp [flat] at hu⟩) (by simp)
  unfold maxLen at hcm
  have hcz : (0 : Int) ≤ c := by omega
  clear hA hp hm0 hb1
  go_enter Tryd.func11, Tryd.ntmps11
  go_wp2_with fail
  refine C.mono ?_
  rintro e w2 ⟨rfl, hb2⟩
  have HB2 : Hid (Below w.heap.size w w2) := bel_new (Below.refl _ w) hb2
  obtain ⟨d0, d1, d2⟩ := new_cell (x := (sp, (p1, p2))) hb2
  simp only at d0 d1 d2
  clear hb2 C
  go_wp2_with fail
  refine (C2 w2).mono ?_
  rintro e w3 ⟨rfl, hb3⟩
  have HB3 : Hid (Below w.heap.size w w3) := bel HB2.out hb3
  have e0 := keep_cell hb3 d0
  have e1 := keep_cell hb3 d1
  have e2 := keep_cell hb3 d2
  clear hb3 C2 d0 d1 d2
  have C3 := HC3.out w3 HB3.out
  go_wp2_with fail
  refine C3.mono ?_
  rintro e w4 ⟨rfl, hb4⟩
  have HB4 : Hid (Below w.heap.size w w4) := bel HB3.out hb4
  have f0 := keep_cell hb4 e0
  have f1 := keep_cell hb4 e1
  have f2 := keep_cell hb4 e2
  clear hb4 C3 e0 e1 e2
  have C5 := HCC.out w4 HB4.out
  unfold threeW at C5
  simp only at C5
  go_wp2_with fail
  go_region_with (go_at_call 40; refine C5.mono ?_; rintro e w6 ⟨v6, rfl, hk6, hb6⟩; have HK6 : Hid (MksNew w.heap.size w6 v6 ([] ++ (sp, (p1, p2)) :: [])) := hk6.mono HB4.out.size; have HB6 : Hid (Below w.heap.size w w6) := bel HB4.out hb6; clear hk6 hb6)
  all_goals
    go_wp2_with fail
    go_ret2
    exact ⟨_, rfl, by rw [HPL.out]; exact HK6.out, HB6.out⟩

theorem cut_loc (v : Value) (l : List Mk) (sp : ByteArray) (p1 p2 : Int) (w : World) (h : MksAt w v l) (hs : ∀ x ∈ l, x.1.size ≤ maxLen) (hp : sp.size ≤ maxLen) :
    Calls Tryd.prog 11 #[v, .agg #[.string sp, .int .i64 p1, .int .i64 p2]] w fun e w' => ∃ v', e = .returned (.tuple #[v', errV (cutE l (sp, (p1, p2)))]) ∧ MksNew w.heap.size w' v' (cutL l (sp, (p1, p2))) ∧ Below w.heap.size w w' := by
  by_cases h0 : marksE l = 0
  · by_cases hm0 : markE (sp, (p1, p2)) = 0
    · have ew : cutE l (sp, (p1, p2)) = withM l (sp, (p1, p2)) := by unfold cutE; rw [if_neg (by simpa using h0), if_neg (by simpa using hm0)]
      obtain ⟨hl40, _, hr⟩ := marksE_zero.1 h0
      have h2 := h
      obtain ⟨p, c, rfl, hlf, hc, hcm, hpc⟩ := h2
      cases ht : there l (sp, (p1, p2))
      · by_cases h40 : 40 ≤ l.length
        · have e : cutE l (sp, (p1, p2)) = 4 := by rw [ew]; unfold withM; rw [if_neg (by rw [ht]; decide), if_pos h40]
          have e2 : cutL l (sp, (p1, p2)) = [] := by unfold cutL; rw [e, if_neg (by decide)]
          rw [e, e2]
          refine (cut_full p _ c l sp p1 p2 w h hs hp h0 hm0 ht h40).mono ?_
          rintro e w' ⟨rfl, hb⟩
          exact ⟨_, rfl, MksNew.nil _ _, hb⟩
        · have e : cutE l (sp, (p1, p2)) = 0 := cutE_zero.2 ⟨h0, hm0, Or.inr (by omega)⟩
          have e2 : cutL l (sp, (p1, p2)) = ins mlt l (sp, (p1, p2)) := by unfold cutL; rw [if_pos e]
          rw [e, e2, errV_zero]
          by_cases hl0 : l = []
          · subst hl0
            cases p with
            | none =>
              have hc0 := hpc rfl
              subst hc0
              exact cut_none sp p1 p2 w h hp hm0
            | some a => exact cut_empty a c sp p1 p2 w h hp hm0 hcm
          · obtain ⟨b, o, rfl, hcc⟩ := hlf.some hl0
            exact cut_new b o _ c l sp p1 p2 w rfl hcc hc hcm hs hp h0 hm0 ht (by omega)
      · have e : cutE l (sp, (p1, p2)) = 0 := cutE_zero.2 ⟨h0, hm0, Or.inl (there_iff.1 ht)⟩
        have e2 : cutL l (sp, (p1, p2)) = ins mlt l (sp, (p1, p2)) := by unfold cutL; rw [if_pos e]
        rw [e, e2, errV_zero]
        have hne : l ≠ [] := by rintro rfl; rw [there_nil] at ht; cases ht
        obtain ⟨b, o, rfl, hcc⟩ := hlf.some hne
        exact cut_there _ _ c l sp p1 p2 w h hs hp h0 hm0 ht
    · have e : cutE l (sp, (p1, p2)) = markE (sp, (p1, p2)) := by unfold cutE; rw [if_neg (by simpa using h0), if_pos hm0]
      have e2 : cutL l (sp, (p1, p2)) = [] := by unfold cutL; rw [e, if_neg hm0]
      rw [e, e2]
      refine (cut_wrong v l sp p1 p2 w h hs hp h0 hm0).mono ?_
      rintro e w' ⟨rfl, hb⟩
      exact ⟨_, rfl, MksNew.nil _ _, hb⟩
  · have e : cutE l (sp, (p1, p2)) = marksE l := by unfold cutE; rw [if_pos h0]
    have e2 : cutL l (sp, (p1, p2)) = [] := by unfold cutL; rw [e, if_neg h0]
    rw [e, e2]
    refine (cut_bad v l sp p1 p2 w h hs hp h0).mono ?_
    rintro e w' ⟨rfl, hb⟩
    exact ⟨_, rfl, MksNew.nil _ _, hb⟩
theorem cut_any (v : Value) (l : List Mk) (sp : ByteArray) (p1 p2 : Int) (w : World) (h : MksAt w v l) (hs : ∀ x ∈ l, x.1.size ≤ maxLen) (hp : sp.size ≤ maxLen) :
    Calls Tryd.prog 11 #[v, .agg #[.string sp, .int .i64 p1, .int .i64 p2]] w fun e w' => ∃ v', e = .returned (.tuple #[v', errV (cutE l (sp, (p1, p2)))]) ∧ MksAt w' v' (cutL l (sp, (p1, p2))) ∧ Below w.heap.size w w' :=
  (cut_loc v l sp p1 p2 w h hs hp).mono fun e w' ⟨v', h1, h2, h3⟩ => ⟨v', h1, h2.1, h3⟩

end Nh
end Go.Proofs.YtcmoajlcmeimiaaDoor
