/- Package cache: New, Load, Get, Drop, Places, Used. -/
import Derived.Test.YtllcmfbkingfdaaGreatFt
namespace Go.Proofs.YtllcmfbkingfdaaGreat
namespace Fu
set_option linter.unusedVariables false
set_option linter.unusedSimpArgs false
open Go.ChangeShapes Go.WideShapes Go.ChangeAt Go.RowKit Ka Kb Ef Fc Fl Fm Fo Fp Fq Ft
open Fb (Kp names get? off used trim Inv loadE loadS loadC getE getS newE dropS)
open Ec (e0)

def At (w : World) (X b : Nat) (m : List Kp) (F : Nat → Prop) : Prop := Inv b m ∧ b ≤ 10000 ∧ ∃ B v, St w X B b m v ∧ ∀ k, F k ↔ Fs X B v k
theorem At.lt {w : World} {X b : Nat} {m : List Kp} {F : Nat → Prop} (h : At w X b m F) : ∀ g, F g → g < w.heap.size := by
  obtain ⟨_, _, B, v, s, hF⟩ := h
  exact fun g hg => s.lt g ((hF g).1 hg)
theorem At.stay {w w' : World} {X b : Nat} {m : List Kp} {F : Nat → Prop} (h : At w X b m F) (hs : Stay F w w') : At w' X b m F := by
  obtain ⟨h1, h2, B, v, s, hF⟩ := h
  exact ⟨h1, h2, B, v, s.stay fun k hk => hs k ((hF k).2 hk), hF⟩
theorem At.below {w w' : World} {X b : Nat} {m : List Kp} {F : Nat → Prop} (h : At w X b m F) (hb : Below w.heap.size w w') : At w' X b m F := h.stay fun g hg => hb.block g (h.lt g hg)
/- what a call leaves -/
def Lft (w : World) (X b : Nat) (F : Nat → Prop) (m' : List Kp) (w' : World) : Prop := ∃ F', At w' X b m' F' ∧ Chg F w w' ∧ ∀ g, F' g → F g ∨ w.heap.size ≤ g
theorem left_of {w w' : World} {X B b : Nat} {F : Nat → Prop} {v : Value} {m' : List Kp} (hF : ∀ k, F k ↔ Fs X B v k) (hi : Inv b m') (hb : b ≤ 10000) (h : Nxt w X B b v m' w') : Lft w X b F m' w' := by
  obtain ⟨v', s, c, l⟩ := h
  refine ⟨Fs X B v', ⟨hi, hb, B, v', s, fun k => Iff.rfl⟩, c.mono fun k e => (hF k).2 e, ?_⟩
  rintro k (e | e | e)
  · exact Or.inl ((hF k).2 (Or.inl e))
  · exact Or.inl ((hF k).2 (Or.inr (Or.inl e)))
  · rcases l k e with e | e
    · exact Or.inl ((hF k).2 (Or.inr (Or.inr e)))
    · exact Or.inr e
theorem left_same {w w' : World} {X b : Nat} {m : List Kp} {F : Nat → Prop} (h : At w X b m F) (hb : Below w.heap.size w w') : Lft w X b F m w' := ⟨F, h.below hb, Chg.ofBelow hb F, fun g e => Or.inl e⟩

/- New -/
theorem new_bad (b : Int) (w : World) (h : b < 1 ∨ 10000 < b) : Calls Tryz.prog 7 #[.int .i64 b] w fun e w' => e = .returned (.tuple #[.pointer none, .iface 69 (.int .i64 1)]) ∧ w' = w := by
  by_cases h1 : b < 1
  · clear h
    go_enter Tryz.func7, Tryz.ntmps7
    go_wp2
    go_ret2
    exact ⟨rfl, rfl⟩
  · have h2 : 10000 < b := by omega
    clear h
    go_enter Tryz.func7, Tryz.ntmps7
    go_wp2
    go_ret2
    exact ⟨rfl, rfl⟩
theorem new_good (b : Int) (w : World) (h : ¬ (b < 1 ∨ 10000 < b)) : Calls Tryz.prog 7 #[.int .i64 b] w fun e w' => e = .returned (.tuple #[ptr (w.heap.size + 1), .nilIface]) ∧ w' = (w.alloc (.map #[] 0)).alloc (.cells #[.int .i64 b, .int .i64 0, .map (some w.heap.size), .slice none 0 0] 73) := by
  have h1 : ¬ b < 1 := by omega
  have h2 : ¬ 10000 < b := by omega
  have hmm := @run_makeMap Tryz.prog
  clear h
  go_enter Tryz.func7, Tryz.ntmps7
  go_wp2_with fail
  go_ret2
  exact ⟨rfl, rfl⟩
theorem cache_new (b : Int) (w : World) : Calls Tryz.prog 7 #[.int .i64 b] w fun e w' => ((newE b ≠ 0 ∧ e = .returned (.tuple #[.pointer none, errV (newE b)])) ∨ (newE b = 0 ∧ ∃ X F, e = .returned (.tuple #[ptr X, .nilIface]) ∧ At w' X b.toNat [] F ∧ ∀ g, F g → w.heap.size ≤ g)) ∧ Below w.heap.size w w' := by
  by_cases h : b < 1 ∨ 10000 < b
  · have e1 : newE b = 1 := by unfold newE; rw [if_pos h]
    refine (new_bad b w h).mono ?_
    rintro e w' ⟨rfl, rfl⟩
    rw [e1, errV_ne (by decide)]
    exact ⟨Or.inl ⟨by decide, rfl⟩, Below.refl _ _⟩
  · have e1 : newE b = 0 := by unfold newE; rw [if_neg h]
    refine (new_good b w h).mono ?_
    rintro e w' ⟨rfl, rfl⟩
    have eb : ((b.toNat : Nat) : Int) = b := by omega
    have b1 : Below w.heap.size w (w.alloc (.map #[] 0)) := (Below.refl _ w).alloc (Nat.le_refl _) _
    have b2 : Below w.heap.size w ((w.alloc (.map #[] 0)).alloc (.cells #[.int .i64 b, .int .i64 0, .map (some w.heap.size), .slice none 0 0] 73)) := b1.alloc (by simp) _
    refine ⟨Or.inr ⟨e1, w.heap.size + 1, Fs (w.heap.size + 1) w.heap.size (.slice none 0 0), rfl, ⟨Fb.inv_nil _, by omega, w.heap.size, .slice none 0 0, ⟨List.nodup_nil, [], ⟨?_, ?_, ⟨rfl, Or.inl ⟨rfl, rfl⟩⟩⟩, Rel.nil⟩, fun k => Iff.rfl⟩, ?_⟩, b2⟩
    · have h9 := heap_alloc_new (w.alloc (.map #[] 0)) (.cells #[.int .i64 b, .int .i64 0, .map (some w.heap.size), .slice none 0 0] 73)
      rw [show (w.alloc (.map #[] 0)).heap.size = w.heap.size + 1 by simp] at h9
      rw [h9, eb]; rfl
    · exact (make_map w).stay (Below.heap_alloc _ _ _ (by simp))
    · rintro g (e | e | e)
      · omega
      · omega
      · cases e

/- Places, Used -/
theorem cache_used (X b : Nat) (m : List Kp) (F : Nat → Prop) (w : World) (h : At w X b m F) : Calls Tryz.prog 16 #[ptr X] w fun e w' => e = .returned (.int .i64 (used m)) ∧ Below w.heap.size w w' := by
  obtain ⟨_, _, B, v, ⟨_, M, r, _⟩, _⟩ := h
  have c1 := blk_cell r.blk (i := 1) (u := .int .i64 (used m)) rfl
  clear r
  go_enter Tryz.func16, Tryz.ntmps16
  go_wp2
  go_ret
  exact ⟨rfl, Below.refl _ _⟩

/- Load -/
theorem is_toList {d : ByteArray} (h : d.size = 0) : (d.toList == []) = true ∧ d.toList.isEmpty = true := by
  have : d.toList = [] := by
    rw [ByteArray.toList_eq]
    have : d.data.toList.length = 0 := h
    exact List.eq_nil_of_length_eq_zero this
  rw [this]; exact ⟨rfl, rfl⟩
theorem ne_toList {d : ByteArray} (h : d.size ≠ 0) : (d.toList == []) = false ∧ d.toList.isEmpty = false := by
  have : d.toList ≠ [] := fun e => h (by
    rw [ByteArray.toList_eq] at e
    have e2 : d.data.toList.length = 0 := by rw [e]; rfl
    simpa using e2)
  exact ⟨by simpa using this, by simpa using this⟩
set_option maxRecDepth 100000 in
set_option maxHeartbeats 2000000 in
theorem load_syntax (X : Nat) (p s : ByteArray) (w : World) (h1 : p.size ≠ 0) (h2 : Pm.chk p.toList ≠ 0) (hp : p.size ≤ maxLen) :
    Calls Tryz.prog 15 #[ptr X, .string p, .string s] w fun e w' => e = .returned (.iface 69 (.int .i64 2)) ∧ w' = w := by
  obtain ⟨q1, q2⟩ := ne_toList h1
  have C := check_any p w hp
  rw [errV_ne h2] at C
  clear h1 h2 hp
  go_enter Tryz.func15, Tryz.ntmps15
  go_wp2_with (go_at_call 29; refine C.mono ?_; rintro e w' ⟨rfl, rfl⟩)
  go_ret
  exact ⟨rfl, rfl⟩
set_option maxRecDepth 100000 in
set_option maxHeartbeats 2000000 in
theorem load_full_empty (X b : Nat) (p s : ByteArray) (w : World) (c0 : w.cell? ⟨X, 0, none⟩ = some (.int .i64 b)) (h1 : p.size = 0) (hs : s.size ≤ maxLen) (h : b < s.size) :
    Calls Tryz.prog 15 #[ptr X, .string p, .string s] w fun e w' => e = .returned (.iface 69 (.int .i64 4)) ∧ w' = w := by
  obtain ⟨q1, q2⟩ := is_toList h1
  have hz : (b : Int) < (s.size : Int) := by omega
  have hsm : (s.size : Int) ≤ 9223372036854775807 := by unfold maxLen at hs; omega
  clear h1
  go_enter Tryz.func15, Tryz.ntmps15
  go_wp2_with fail
  go_ret
  exact ⟨rfl, rfl⟩
set_option maxRecDepth 100000 in
set_option maxHeartbeats 2000000 in
theorem load_ok_empty (X B b : Nat) (m : List Kp) (v : Value) (p s : ByteArray) (w : World) (st : St w X B b m v) (h1 : p.size = 0) (hb : b ≤ 10000) (hu : used m ≤ b) (hl : m.length ≤ 1000) (h : s.size ≤ b) :
    Calls Tryz.prog 15 #[ptr X, .string p, .string s] w fun e w' => e = .returned .nilIface ∧ Nxt w X B b v (loadC b p s m) w' := by
  obtain ⟨q1, q2⟩ := is_toList h1
  have hz : ¬ (b : Int) < (s.size : Int) := by omega
  have hsm : (s.size : Int) ≤ 9223372036854775807 := by omega
  have c0 : w.cell? ⟨X, 0, none⟩ = some (.int .i64 b) := by obtain ⟨_, M, r, _⟩ := st; exact blk_cell r.blk (i := 0) rfl
  have CR := remove_st X B b m v p w st (by omega) (by omega)
  have hof := Fb.used_off_le p m
  have hol := Fe.off_len p m
  have HX : Hid (used (off p m) ≤ 10000 ∧ (off p m).length ≤ 1000 ∧ s.size ≤ 10000 ∧ b ≤ 10000) := ⟨by omega, by omega, by omega, hb⟩
  have HNO := Hid.mk' (Fb.not_off p m)
  clear st hof hol hb hu hl h
  clear h1
  go_enter Tryz.func15, Tryz.ntmps15
  go_wp2_with fail
  refine CR.mono ?_
  rintro e w1 ⟨rfl, v1, s1, c1, l1⟩
  have CA := add_st X B b (off p m) v1 p s w1 s1 HNO.out (by have := HX.out.1; omega) HX.out.2.2.1 (by have := HX.out.2.1; omega)
  have HC1 := Hid.mk' c1
  have HL1 := Hid.mk' l1
  clear CR s1 c1 l1
  go_wp2_with fail
  refine CA.mono ?_
  rintro e w2 ⟨rfl, v2, s2, c2, l2⟩
  have CS := shrink_st X B b (off p m ++ [(p, s)]) v2 w2 s2 (by simp) (by rw [Fb.used_append]; show used (off p m) + (s.size + 0) ≤ _; have := HX.out.1; have := HX.out.2.2.1; omega) (by rw [List.length_append]; show (off p m).length + 1 ≤ _; have := HX.out.2.1; omega) HX.out.2.2.2
  have HC2 := Hid.mk' c2
  have HL2 := Hid.mk' l2
  clear CA s2 c2 l2
  go_wp2_with fail
  refine CS.mono ?_
  rintro e w3 ⟨rfl, h3⟩
  have H3 := Hid.mk' h3
  clear CS h3
  go_wp2_with fail
  go_ret
  exact ⟨rfl, Nxt.after HC1.out HL1.out (Nxt.after HC2.out HL2.out H3.out)⟩
set_option maxRecDepth 100000 in
set_option maxHeartbeats 2000000 in
theorem load_full_place (X b : Nat) (p s : ByteArray) (w : World) (c0 : w.cell? ⟨X, 0, none⟩ = some (.int .i64 b)) (h1 : p.size ≠ 0) (h2 : Pm.chk p.toList = 0) (hp : p.size ≤ maxLen) (hs : s.size ≤ maxLen) (h : b < s.size) :
    Calls Tryz.prog 15 #[ptr X, .string p, .string s] w fun e w' => e = .returned (.iface 69 (.int .i64 4)) ∧ w' = w := by
  obtain ⟨q1, q2⟩ := ne_toList h1
  have C := check_any p w hp
  rw [h2, errV_zero] at C
  have hz : (b : Int) < (s.size : Int) := by omega
  have hsm : (s.size : Int) ≤ 9223372036854775807 := by unfold maxLen at hs; omega
  clear h1 h2 hp
  go_enter Tryz.func15, Tryz.ntmps15
  go_wp2_with (go_at_call 29; refine C.mono ?_; rintro e w' ⟨rfl, rfl⟩)
  go_ret
  exact ⟨rfl, rfl⟩
set_option maxRecDepth 100000 in
set_option maxHeartbeats 2000000 in
theorem load_ok_place (X B b : Nat) (m : List Kp) (v : Value) (p s : ByteArray) (w : World) (st : St w X B b m v) (h1 : p.size ≠ 0) (h2 : Pm.chk p.toList = 0) (hp : p.size ≤ maxLen) (hb : b ≤ 10000) (hu : used m ≤ b) (hl : m.length ≤ 1000) (h : s.size ≤ b) :
    Calls Tryz.prog 15 #[ptr X, .string p, .string s] w fun e w' => e = .returned .nilIface ∧ Nxt w X B b v (loadC b p s m) w' := by
  obtain ⟨q1, q2⟩ := ne_toList h1
  have C := check_any p w hp
  rw [h2, errV_zero] at C
  have hz : ¬ (b : Int) < (s.size : Int) := by omega
  have hsm : (s.size : Int) ≤ 9223372036854775807 := by omega
  have c0 : w.cell? ⟨X, 0, none⟩ = some (.int .i64 b) := by obtain ⟨_, M, r, _⟩ := st; exact blk_cell r.blk (i := 0) rfl
  have CR := remove_st X B b m v p w st (by omega) (by omega)
  have hof := Fb.used_off_le p m
  have hol := Fe.off_len p m
  have HX : Hid (used (off p m) ≤ 10000 ∧ (off p m).length ≤ 1000 ∧ s.size ≤ 10000 ∧ b ≤ 10000) := ⟨by omega, by omega, by omega, hb⟩
  have HNO := Hid.mk' (Fb.not_off p m)
  clear st hof hol hb hu hl h
  clear h1 h2 hp
  go_enter Tryz.func15, Tryz.ntmps15
  go_wp2_with (go_at_call 29; refine C.mono ?_; rintro e w' ⟨rfl, rfl⟩)
  refine CR.mono ?_
  rintro e w1 ⟨rfl, v1, s1, c1, l1⟩
  have CA := add_st X B b (off p m) v1 p s w1 s1 HNO.out (by have := HX.out.1; omega) HX.out.2.2.1 (by have := HX.out.2.1; omega)
  have HC1 := Hid.mk' c1
  have HL1 := Hid.mk' l1
  clear CR s1 c1 l1
  go_wp2_with fail
  refine CA.mono ?_
  rintro e w2 ⟨rfl, v2, s2, c2, l2⟩
  have CS := shrink_st X B b (off p m ++ [(p, s)]) v2 w2 s2 (by simp) (by rw [Fb.used_append]; show used (off p m) + (s.size + 0) ≤ _; have := HX.out.1; have := HX.out.2.2.1; omega) (by rw [List.length_append]; show (off p m).length + 1 ≤ _; have := HX.out.2.1; omega) HX.out.2.2.2
  have HC2 := Hid.mk' c2
  have HL2 := Hid.mk' l2
  clear CA s2 c2 l2
  go_wp2_with fail
  refine CS.mono ?_
  rintro e w3 ⟨rfl, h3⟩
  have H3 := Hid.mk' h3
  clear CS h3
  go_wp2_with fail
  go_ret
  exact ⟨rfl, Nxt.after HC1.out HL1.out (Nxt.after HC2.out HL2.out H3.out)⟩
theorem cache_load (X b : Nat) (m : List Kp) (F : Nat → Prop) (p s : ByteArray) (w : World) (h : At w X b m F) (hf : Fit b m) (hp : p.size ≤ maxLen) (hs : s.size ≤ maxLen) : Calls Tryz.prog 15 #[ptr X, .string p, .string s] w fun e w' => e = .returned (errV (loadE b p s)) ∧ Lft w X b F (loadS b p s m) w' := by
  have h0 := h
  obtain ⟨hi, hb, B, v, st, hF⟩ := h
  have c0 : w.cell? ⟨X, 0, none⟩ = some (.int .i64 b) := by obtain ⟨_, M, r, _⟩ := st; exact blk_cell r.blk (i := 0) rfl
  by_cases h1 : p.size ≠ 0 ∧ Pm.chk p.toList ≠ 0
  · have e1 : loadE b p s = 2 := by unfold loadE; rw [if_pos h1]
    have e2 : loadS b p s m = m := by unfold loadS; rw [e1, if_pos (by decide)]
    refine (load_syntax X p s w h1.1 h1.2 hp).mono ?_
    rintro e w' ⟨rfl, rfl⟩
    rw [e1, e2, errV_ne (by decide)]
    exact ⟨rfl, left_same h0 (Below.refl _ _)⟩
  · by_cases h2 : b < s.size
    · have e1 : loadE b p s = 4 := by unfold loadE; rw [if_neg h1, if_pos h2]
      have e2 : loadS b p s m = m := by unfold loadS; rw [e1, if_pos (by decide)]
      rw [e1, e2, errV_ne (by decide)]
      have key : Calls Tryz.prog 15 #[ptr X, .string p, .string s] w fun e w' => e = .returned (.iface 69 (.int .i64 4)) ∧ w' = w := by
        by_cases h3 : p.size = 0
        · exact load_full_empty X b p s w c0 h3 hs h2
        · exact load_full_place X b p s w c0 h3 (Classical.byContradiction fun h4 => h1 ⟨h3, h4⟩) hp hs h2
      refine key.mono ?_
      rintro e w' ⟨rfl, rfl⟩
      exact ⟨rfl, left_same h0 (Below.refl _ _)⟩
    · have e1 : loadE b p s = 0 := by unfold loadE; rw [if_neg h1, if_neg h2]
      have e2 : loadS b p s m = loadC b p s m := by unfold loadS; rw [e1, if_neg (by decide)]
      rw [e1, e2, errV_zero]
      have key : Calls Tryz.prog 15 #[ptr X, .string p, .string s] w fun e w' => e = .returned .nilIface ∧ Nxt w X B b v (loadC b p s m) w' := by
        by_cases h3 : p.size = 0
        · exact load_ok_empty X B b m v p s w st h3 hb hi.le hf.2 (by omega)
        · exact load_ok_place X B b m v p s w st h3 (Classical.byContradiction fun h4 => h1 ⟨h3, h4⟩) hp hb hi.le hf.2 (by omega)
      refine key.mono ?_
      rintro e w' ⟨rfl, hx⟩
      exact ⟨rfl, left_of hF (Fb.inv_load hi (by omega)).1 hb hx⟩

/- Get -/
set_option maxRecDepth 100000 in
set_option maxHeartbeats 2000000 in
theorem get_no (X B b : Nat) (m : List Kp) (v : Value) (p : ByteArray) (w : World) (st : St w X B b m v) (hg : get? p m = none) :
    Calls Tryz.prog 13 #[ptr X, .string p] w fun e w' => e = .returned (.tuple #[.string ByteArray.empty, .iface 69 (.int .i64 5)]) ∧ Below w.heap.size w w' := by
  have CR := remove_none X B b m v p w st hg
  clear st hg
  go_enter Tryz.func13, Tryz.ntmps13
  go_wp2_with fail
  refine CR.mono ?_
  rintro e w1 ⟨rfl, hb1⟩
  have HB := Hid.mk' hb1
  clear CR hb1
  go_wp2_with fail
  go_ret2
  exact ⟨rfl, HB.out⟩
set_option maxRecDepth 100000 in
set_option maxHeartbeats 2000000 in
theorem get_yes (X B b : Nat) (m : List Kp) (v : Value) (p t : ByteArray) (w : World) (st : St w X B b m v) (hg : get? p m = some t) (hu : used m ≤ 10000) (hl : m.length ≤ 1000) :
    Calls Tryz.prog 13 #[ptr X, .string p] w fun e w' => e = .returned (.tuple #[.string t, .nilIface]) ∧ Nxt w X B b v (off p m ++ [(p, t)]) w' := by
  have CR := remove_some X B b m v p t w st hg (by omega) (by omega)
  have hof := Fb.used_off st.1 hg
  have hol := Fe.off_len p m
  have HX : Hid (used (off p m) ≤ 10000 ∧ (off p m).length ≤ 1000 ∧ t.size ≤ 10000) := ⟨by omega, by omega, by omega⟩
  have HNO := Hid.mk' (Fb.not_off p m)
  clear st hof hol hu hl hg
  go_enter Tryz.func13, Tryz.ntmps13
  go_wp2_with fail
  refine CR.mono ?_
  rintro e w1 ⟨rfl, v1, s1, c1, l1⟩
  have CA := add_st X B b (off p m) v1 p t w1 s1 HNO.out (by have := HX.out.1; omega) HX.out.2.2 (by have := HX.out.2.1; omega)
  have HC1 := Hid.mk' c1
  have HL1 := Hid.mk' l1
  clear CR s1 c1 l1
  go_wp2_with fail
  refine CA.mono ?_
  rintro e w2 ⟨rfl, h2⟩
  have H2 := Hid.mk' h2
  clear CA h2
  go_wp2_with fail
  go_ret2
  exact ⟨rfl, Nxt.after HC1.out HL1.out H2.out⟩
theorem cache_get (X b : Nat) (m : List Kp) (F : Nat → Prop) (p : ByteArray) (w : World) (h : At w X b m F) (hf : Fit b m) : Calls Tryz.prog 13 #[ptr X, .string p] w fun e w' => e = .returned (.tuple #[.string ((get? p m).getD Fb.e0), errV (getE p m)]) ∧ Lft w X b F (getS p m) w' := by
  have h0 := h
  obtain ⟨hi, hb, B, v, st, hF⟩ := h
  have hi2 := Fb.inv_getS (p := p) hi
  cases hg : get? p m with
  | none =>
    have e1 : getE p m = 5 := by unfold getE; rw [if_pos hg]
    have e2 : getS p m = m := by unfold getS; rw [hg]
    refine (get_no X B b m v p w st hg).mono ?_
    rintro e w' ⟨rfl, hbw⟩
    rw [e1, e2, errV_ne (by decide)]
    exact ⟨rfl, left_same h0 hbw⟩
  | some t =>
    have e1 : getE p m = 0 := by unfold getE; rw [if_neg (by rw [hg]; exact fun e => by cases e)]
    have e2 : getS p m = off p m ++ [(p, t)] := by unfold getS; rw [hg]
    have := hi.le
    refine (get_yes X B b m v p t w st hg (by omega) hf.2).mono ?_
    rintro e w' ⟨rfl, hx⟩
    rw [e1, errV_zero]
    rw [e2] at hi2 ⊢
    exact ⟨rfl, left_of hF hi2 hb hx⟩

/- Drop -/
theorem at_inv {w : World} {X b : Nat} {m : List Kp} {F : Nat → Prop} (h : At w X b m F) : Inv b m := h.1
end Fu
end Go.Proofs.YtllcmfbkingfdaaGreat
