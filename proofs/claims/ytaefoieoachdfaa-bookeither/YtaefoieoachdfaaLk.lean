/- What book.Write and book.Strike answer, and leafsame.Leafs. -/
import Derived.Test.YtaefoieoachdfaaLj
import Derived.Laws.StructEq
namespace Go.Proofs.Ytaefoieoachdfaa
namespace Lk
set_option linter.unusedVariables false
open Go.ChangeShapes Go.WideShapes Go.ChangeAt Go.RowKit Bm Ka Kb La Lb Lc Ld Le Lf Lg Lh Li Lj

theorem bk_check {w : World} {v : Value} {l : List Leaf} (h : BookAt w v l) (p : ByteArray) (hs : ∀ x ∈ l, x.1.size ≤ maxLen) (hp : p.size ≤ maxLen) :
    Calls Try.prog 19 #[v, .string p] w fun e w' => e = .returned (errV (withE l p)) ∧ Below w.heap.size w w' := by
  obtain ⟨q, c, rfl, hlf, hc, hcm, _⟩ := h
  exact checkWith_any q _ c l p w rfl hlf hs (Nat.le_trans hc hcm) hp
theorem bk_leafAt {w : World} {v : Value} {l : List Leaf} (h : BookAt w v l) (p : ByteArray) (hr : Rise l) (hn : l.length ≤ 300) :
    Calls Try.prog 21 #[v, .string p] w fun e w' => e = .returned (aggL (Bm.leafAt l p)) ∧ Below w.heap.size w w' := by
  obtain ⟨q, c, rfl, hlf, hc, hcm, _⟩ := h
  exact leafAt_any q _ c l p w rfl hlf hr (by omega)

set_option maxHeartbeats 1000000 in
theorem write_loc (v : Value) (l : List Leaf) (p : ByteArray) (c : Int) (w : World) (h : BookAt w v l) (hs : ∀ x ∈ l, x.1.size ≤ maxLen) (hp : p.size ≤ maxLen) :
    Calls Try.prog 5 #[v, .string p, .int .i64 c] w fun e w' => ∃ v', e = .returned (.tuple #[v', errV (writeE l p c)]) ∧ BookNew w.heap.size w' v' (writeL l p c) ∧ Below w.heap.size w w' := by
  have C := bk_check h p hs hp
  by_cases h0 : withE l p = 0
  · obtain ⟨hb0, hp0⟩ := withE_zero.1 h0
    have hk := book_ok hb0
    have HW : Hid (writeE l p c = wrE l p c) := by unfold Hid writeE; rw [if_neg (by simpa using h0)]
    rw [h0, errV_zero] at C
    cases hc : isL c
    · have HE : Hid (writeE l p c = 1) := by unfold Hid; rw [HW.out]; unfold wrE; rw [if_pos hc]
      have HL : Hid (writeL l p c = []) := by unfold Hid writeL; rw [HE.out]; rfl
      have C2 := fun w => isLetter_any c w
      rw [hc] at C2
      rw [HE.out, HL.out]
      clear h0 hb0 hp0 hk HW hc HE HL h hs hp
      go_enter Try.func5, Try.ntmps5
      go_wp2_with fail
      refine C.mono ?_
      rintro e w2 ⟨rfl, hb2⟩
      have HB2 : Hid (Below w.heap.size w w2) := hb2
      clear hb2 C
      go_wp2_with fail
      refine (C2 _).mono ?_
      rintro e w3 ⟨rfl, hw⟩
      have hw2 := hw.symm; subst hw2; clear hw C2
      go_wp2_with fail
      go_ret2
      exact ⟨_, rfl, BookNew.nil _ _, HB2.out⟩
    · have C2 := fun w => isLetter_any c w
      rw [hc] at C2
      have HC3 : Hid (∀ w2, Below w.heap.size w w2 → Calls Try.prog 21 #[v, .string p] w2 fun e w' => e = .returned (aggL (Bm.leafAt l p)) ∧ Below w2.heap.size w2 w') := fun w2 hb => bk_leafAt (h.below hb) p hk.2.1 hk.1
      have hkey := leafAt_key hk.2.1 p
      obtain ⟨x, hx⟩ : ∃ x, x = Bm.leafAt l p := ⟨_, rfl⟩
      rw [← hx] at HC3 hkey
      obtain ⟨p0, n0, b0⟩ := x
      simp only at hkey
      subst hkey
      have HWX : Hid (wrX l p0 c = (p0, c, b0)) := by unfold Hid wrX; rw [← hx]
      cases hcl : clash (p0, n0, b0) c
      · have HE : Hid (writeE l p0 c = putE l p0) := by unfold Hid; rw [HW.out]; unfold wrE; rw [if_neg (by rw [hc]; decide), ← hx, hcl]; rfl
        have HL : Hid (writeL l p0 c = putR l p0 (p0, c, b0)) := by unfold Hid writeL putR; rw [HE.out, HWX.out]
        have HC4 : Hid (∀ w2, Below w.heap.size w w2 → Calls Try.prog 22 #[v, .agg #[.string p0, .int .i64 c, .bool b0]] w2 fun e w' => ∃ v', e = .returned (.tuple #[v', errV (putE l p0)]) ∧ BookNew w2.heap.size w' v' (putR l p0 (p0, c, b0)) ∧ Below w2.heap.size w2 w') := fun w2 hb => put_any v l p0 c b0 w2 (h.below hb) hk.2.1 hk.1
        rw [HE.out, HL.out]
        obtain ⟨ee, hee⟩ : ∃ ee, ee = errV (putE l p0) := ⟨_, rfl⟩
        rw [← hee] at HC4 ⊢
        clear h0 hb0 hp0 hk HW HE HL h hs hp hx HWX hee hc
        by_cases hn0 : n0 = 0
        · subst hn0
          clear hcl
          go_enter Try.func5, Try.ntmps5
          go_wp2_with fail
          refine C.mono ?_
          rintro e w2 ⟨rfl, hb2⟩
          have HB2 : Hid (Below w.heap.size w w2) := hb2
          clear hb2 C
          go_wp2_with fail
          refine (C2 _).mono ?_
          rintro e w3 ⟨rfl, hw⟩
          have hw2 := hw.symm; subst hw2; clear hw C2
          have C3 := HC3.out w2 HB2.out
          unfold aggL at C3
          go_wp2_with fail
          refine C3.mono ?_
          rintro e w4 ⟨rfl, hb4⟩
          have HB4 : Hid (Below w.heap.size w w4) := bel HB2.out hb4
          clear hb4 C3
          have C4 := HC4.out _ (HB4.out.alloc HB4.out.size (.cells #[.string p0, .int .i64 c, .bool b0] 28))
          have HB5 : Hid (Below w.heap.size w (w4.alloc (.cells #[.string p0, .int .i64 c, .bool b0] 28))) := HB4.out.alloc HB4.out.size _
          go_wp2_with fail
          refine C4.mono ?_
          rintro e w6 ⟨v6, rfl, hk6, hb6⟩
          have HK6 : Hid (BookNew w.heap.size w6 v6 (putR l p0 (p0, c, b0))) := hk6.mono HB5.out.size
          have HB6 : Hid (Below w.heap.size w w6) := bel HB5.out hb6
          clear hk6 hb6 C4
          go_wp2_with fail
          go_ret2
          exact ⟨_, rfl, HK6.out, HB6.out⟩
        · have hn1 : (n0 != 0) = true := by simpa using hn0
          have ecn : c = n0 := by
            unfold clash at hcl
            rw [Bool.and_eq_false_iff] at hcl
            rcases hcl with e | e
            · rw [hn1] at e; cases e
            · have e2 : n0 = c := by simpa using e
              exact e2.symm
          subst ecn
          clear hcl
          go_enter Try.func5, Try.ntmps5
          go_wp2_with fail
          refine C.mono ?_
          rintro e w2 ⟨rfl, hb2⟩
          have HB2 : Hid (Below w.heap.size w w2) := hb2
          clear hb2 C
          go_wp2_with fail
          refine (C2 _).mono ?_
          rintro e w3 ⟨rfl, hw⟩
          have hw2 := hw.symm; subst hw2; clear hw C2
          have C3 := HC3.out w2 HB2.out
          unfold aggL at C3
          go_wp2_with fail
          refine C3.mono ?_
          rintro e w4 ⟨rfl, hb4⟩
          have HB4 : Hid (Below w.heap.size w w4) := bel HB2.out hb4
          clear hb4 C3
          have C4 := HC4.out _ (HB4.out.alloc HB4.out.size (.cells #[.string p0, .int .i64 c, .bool b0] 28))
          have HB5 : Hid (Below w.heap.size w (w4.alloc (.cells #[.string p0, .int .i64 c, .bool b0] 28))) := HB4.out.alloc HB4.out.size _
          go_wp2_with fail
          refine C4.mono ?_
          rintro e w6 ⟨v6, rfl, hk6, hb6⟩
          have HK6 : Hid (BookNew w.heap.size w6 v6 (putR l p0 (p0, c, b0))) := hk6.mono HB5.out.size
          have HB6 : Hid (Below w.heap.size w w6) := bel HB5.out hb6
          clear hk6 hb6 C4
          go_wp2_with fail
          go_ret2
          exact ⟨_, rfl, HK6.out, HB6.out⟩
      · have HE : Hid (writeE l p0 c = 7) := by unfold Hid; rw [HW.out]; unfold wrE; rw [if_neg (by rw [hc]; decide), ← hx, hcl]; rfl
        have HL : Hid (writeL l p0 c = []) := by unfold Hid writeL; rw [HE.out]; rfl
        rw [HE.out, HL.out]
        unfold clash at hcl
        rw [Bool.and_eq_true] at hcl
        obtain ⟨hn1, hn2⟩ := hcl
        simp only at hn1 hn2
        have hn0 : ¬ n0 = 0 := by simpa using hn1
        clear h0 hb0 hp0 hk HW HE HL h hs hp hx HWX hc
        go_enter Try.func5, Try.ntmps5
        go_wp2_with fail
        refine C.mono ?_
        rintro e w2 ⟨rfl, hb2⟩
        have HB2 : Hid (Below w.heap.size w w2) := hb2
        clear hb2 C
        go_wp2_with fail
        refine (C2 _).mono ?_
        rintro e w3 ⟨rfl, hw⟩
        have hw2 := hw.symm; subst hw2; clear hw C2
        have C3 := HC3.out w2 HB2.out
        unfold aggL at C3
        go_wp2_with fail
        refine C3.mono ?_
        rintro e w4 ⟨rfl, hb4⟩
        have HB4 : Hid (Below w.heap.size w w4) := bel HB2.out hb4
        clear hb4 C3
        go_wp2_with fail
        go_ret2
        exact ⟨_, rfl, BookNew.nil _ _, HB4.out.alloc HB4.out.size _⟩
  · obtain ⟨k, hk⟩ : ∃ k, k = withE l p := ⟨_, rfl⟩
    have HE : Hid (writeE l p c = withE l p) := by unfold Hid writeE; rw [if_pos h0]
    have HL : Hid (writeL l p c = []) := by unfold Hid writeL; rw [HE.out, if_neg h0]
    rw [errV_ne h0, ← hk] at C
    rw [HE.out, HL.out, errV_ne h0, ← hk]
    clear h0 hk HE HL h hs hp
    go_enter Try.func5, Try.ntmps5
    go_wp2_with fail
    refine C.mono ?_
    rintro e w2 ⟨rfl, hb2⟩
    have HB2 : Hid (Below w.heap.size w w2) := hb2
    clear hb2 C
    go_wp2_with fail
    go_ret2
    exact ⟨_, rfl, BookNew.nil _ _, HB2.out⟩

set_option maxHeartbeats 1000000 in
theorem strike_loc (v : Value) (l : List Leaf) (p : ByteArray) (w : World) (h : BookAt w v l) (hs : ∀ x ∈ l, x.1.size ≤ maxLen) (hp : p.size ≤ maxLen) :
    Calls Try.prog 6 #[v, .string p] w fun e w' => ∃ v', e = .returned (.tuple #[v', errV (strikeE l p)]) ∧ BookNew w.heap.size w' v' (strikeL l p) ∧ Below w.heap.size w w' := by
  have C := bk_check h p hs hp
  by_cases h0 : withE l p = 0
  · obtain ⟨hb0, hp0⟩ := withE_zero.1 h0
    have hk := book_ok hb0
    rw [h0, errV_zero] at C
    have HC3 : Hid (∀ w2, Below w.heap.size w w2 → Calls Try.prog 21 #[v, .string p] w2 fun e w' => e = .returned (aggL (Bm.leafAt l p)) ∧ Below w2.heap.size w2 w') := fun w2 hb => bk_leafAt (h.below hb) p hk.2.1 hk.1
    have hkey := leafAt_key hk.2.1 p
    obtain ⟨x, hx⟩ : ∃ x, x = Bm.leafAt l p := ⟨_, rfl⟩
    rw [← hx] at HC3 hkey
    obtain ⟨p0, n0, b0⟩ := x
    simp only at hkey
    subst hkey
    have HE : Hid (strikeE l p0 = putE l p0) := by unfold Hid strikeE; rw [if_neg (by simpa using h0)]
    have HL : Hid (strikeL l p0 = putR l p0 (p0, n0, true)) := by unfold Hid strikeL putR stX; rw [HE.out, ← hx]
    have HC4 : Hid (∀ w2, Below w.heap.size w w2 → Calls Try.prog 22 #[v, .agg #[.string p0, .int .i64 n0, .bool true]] w2 fun e w' => ∃ v', e = .returned (.tuple #[v', errV (putE l p0)]) ∧ BookNew w2.heap.size w' v' (putR l p0 (p0, n0, true)) ∧ Below w2.heap.size w2 w') := fun w2 hb => put_any v l p0 n0 true w2 (h.below hb) hk.2.1 hk.1
    rw [HE.out, HL.out]
    obtain ⟨ee, hee⟩ : ∃ ee, ee = errV (putE l p0) := ⟨_, rfl⟩
    rw [← hee] at HC4 ⊢
    clear h0 hb0 hp0 hk HE HL h hs hp hx hee
    go_enter Try.func6, Try.ntmps6
    go_wp2_with fail
    refine C.mono ?_
    rintro e w2 ⟨rfl, hb2⟩
    have HB2 : Hid (Below w.heap.size w w2) := hb2
    have C3 := HC3.out w2 hb2
    unfold aggL at C3
    clear hb2 C
    go_wp2_with fail
    refine C3.mono ?_
    rintro e w4 ⟨rfl, hb4⟩
    have HB4 : Hid (Below w.heap.size w w4) := bel HB2.out hb4
    clear hb4 C3
    have C4 := HC4.out _ (HB4.out.alloc HB4.out.size (.cells #[.string p0, .int .i64 n0, .bool true] 28))
    have HB5 : Hid (Below w.heap.size w (w4.alloc (.cells #[.string p0, .int .i64 n0, .bool true] 28))) := HB4.out.alloc HB4.out.size _
    go_wp2_with fail
    refine C4.mono ?_
    rintro e w6 ⟨v6, rfl, hk6, hb6⟩
    have HK6 : Hid (BookNew w.heap.size w6 v6 (putR l p0 (p0, n0, true))) := hk6.mono HB5.out.size
    have HB6 : Hid (Below w.heap.size w w6) := bel HB5.out hb6
    clear hk6 hb6 C4
    go_wp2_with fail
    go_ret2
    exact ⟨_, rfl, HK6.out, HB6.out⟩
  · obtain ⟨k, hk⟩ : ∃ k, k = withE l p := ⟨_, rfl⟩
    have HE : Hid (strikeE l p = withE l p) := by unfold Hid strikeE; rw [if_pos h0]
    have HL : Hid (strikeL l p = []) := by unfold Hid strikeL; rw [HE.out, if_neg h0]
    rw [errV_ne h0, ← hk] at C
    rw [HE.out, HL.out, errV_ne h0, ← hk]
    clear h0 hk HE HL h hs hp
    go_enter Try.func6, Try.ntmps6
    go_wp2_with fail
    refine C.mono ?_
    rintro e w2 ⟨rfl, hb2⟩
    have HB2 : Hid (Below w.heap.size w w2) := hb2
    clear hb2 C
    go_wp2_with fail
    go_ret2
    exact ⟨_, rfl, BookNew.nil _ _, HB2.out⟩

theorem write_any (v : Value) (l : List Leaf) (p : ByteArray) (c : Int) (w : World) (h : BookAt w v l) (hs : ∀ x ∈ l, x.1.size ≤ maxLen) (hp : p.size ≤ maxLen) :
    Calls Try.prog 5 #[v, .string p, .int .i64 c] w fun e w' => ∃ v', e = .returned (.tuple #[v', errV (writeE l p c)]) ∧ BookAt w' v' (writeL l p c) ∧ Below w.heap.size w w' :=
  (write_loc v l p c w h hs hp).mono fun e w' ⟨v', h1, h2, h3⟩ => ⟨v', h1, h2.1, h3⟩
theorem strike_any (v : Value) (l : List Leaf) (p : ByteArray) (w : World) (h : BookAt w v l) (hs : ∀ x ∈ l, x.1.size ≤ maxLen) (hp : p.size ≤ maxLen) :
    Calls Try.prog 6 #[v, .string p] w fun e w' => ∃ v', e = .returned (.tuple #[v', errV (strikeE l p)]) ∧ BookAt w' v' (strikeL l p) ∧ Below w.heap.size w w' :=
  (strike_loc v l p w h hs hp).mono fun e w' ⟨v', h1, h2, h3⟩ => ⟨v', h1, h2.1, h3⟩

/- two books that lie in memory: are they the same? -/
theorem leaf_ne {s t : ByteArray} {n m : Int} {a b : Bool} : ((s, n, a) : Leaf) = (t, m, b) ↔ s.toList = t.toList ∧ n = m ∧ a = b := by
  constructor
  · intro h; injection h with h1 h2; injection h2 with h2 h3; exact ⟨by rw [h1], h2, h3⟩
  · rintro ⟨h1, rfl, rfl⟩; rw [bytes_inj h1]

theorem neq_leaf (s t : ByteArray) (n m : Int) (a b : Bool) (w : World) : (binOp .neq 28 (.agg #[.string s, .int .i64 n, .bool a]) (.agg #[.string t, .int .i64 m, .bool b])).run Try.prog w = .ok (.bool (!decide (((s, n, a) : Leaf) = (t, m, b)))) w := by
  have u3 := Try.underlying3
  have a3 := Try.isAgg3
  have z3 := Try.sizeOf3
  have u4 := Try.underlying4
  have a4 := Try.isAgg4
  have z4 := Try.sizeOf4
  have u9 := Try.underlying9
  have a9 := Try.isAgg9
  have z9 := Try.sizeOf9
  have hS : Try.prog.underlying 28 = some (.struct (Try.prog.fieldsOf 28)) := by kernel_rfl
  have hp : Try.prog.stoodInHeld 28 = false := by kernel_rfl
  rw [run_neq_struct, show (10000 : Nat) = 9999 + 1 from rfl, run_equalIn_agg w 9999 28 _ _ hS hp]
  simp only [Program.fieldsOf, Try.underlying28]
  have hd : decide (((s, n, a) : Leaf) = (t, m, b)) = (s.toList == t.toList && (n == m && a == b)) := by
    rw [Bool.eq_iff_iff]; simp only [decide_eq_true_eq, leaf_ne, Bool.and_eq_true, beq_iff_eq]
  rw [hd]
  go_simp
  by_cases h1 : s.toList = t.toList <;> by_cases h2 : n = m <;> by_cases h3 : a = b <;> simp [h1, h2, h3]

set_option maxHeartbeats 1000000 in
theorem leafs_any (v u : Value) (a b : List Leaf) (w : World) (h1 : BookAt w v a) (h2 : BookAt w u b) (hn : a.length ≤ 1048576) :
    Calls Try.prog 7 #[v, u] w fun e w' => e = .returned (.bool (decide (a = b))) ∧ Below w.heap.size w w' := by
  obtain ⟨p, c, rfl, hlf, _⟩ := h1
  obtain ⟨q, d, rfl, hlg, _⟩ := h2
  obtain ⟨n, ha⟩ : ∃ n, a.length = n := ⟨_, rfl⟩
  obtain ⟨m, hb⟩ : ∃ m, b.length = m := ⟨_, rfl⟩
  rw [ha, hb]
  rw [ha] at hn
  by_cases hnm : n = m
  · subst hnm
    have HA : Hid (a.length = n) := ha
    have HB : Hid (b.length = n) := hb
    have HF : Hid (LeafsIn w p a) := hlf
    have HG : Hid (LeafsIn w q b) := hlg
    clear ha hb hlf hlg
    go_enter Try.func7, Try.ntmps7
    go_wp2
    go_loopw [5] (fun i wr => ∃ k : Nat, k ≤ n ∧ i = .int .i64 k ∧ Hid (∀ j, j < k → a.getD j none0 = b.getD j none0) ∧ Hid (Below w.heap.size w wr)) (fun i _ => n - (intOf i).toNat)
    case atStart => exact ⟨0, by omega, rfl, fun j hj => absurd hj (by omega), Below.refl _ _⟩
    case round =>
      obtain ⟨k, hk, rfl, HK, HBE⟩ := hrel
      by_cases hlt : k < n
      · have hltz : (k : Int) < n := by omega
        obtain ⟨b1, o1, rfl, c1⟩ := HF.out.some (by intro e; have := HA.out; rw [e] at this; simp at this; omega)
        obtain ⟨b2, o2, rfl, c2⟩ := HG.out.some (by intro e; have := HB.out; rw [e] at this; simp at this; omega)
        have e1 := (c1 k (by rw [HA.out]; exact hlt)).below HBE.out (c1 k (by rw [HA.out]; exact hlt)).lt
        have e2 := (c2 k (by rw [HB.out]; exact hlt)).below HBE.out (c2 k (by rw [HB.out]; exact hlt)).lt
        obtain ⟨x, hx⟩ : ∃ x, x = a.getD k none0 := ⟨_, rfl⟩
        obtain ⟨y, hy⟩ : ∃ y, y = b.getD k none0 := ⟨_, rfl⟩
        rw [← hx] at e1
        rw [← hy] at e2
        have HX : Hid (x = a.getD k none0) := hx
        have HY : Hid (y = b.getD k none0) := hy
        clear hx hy c1 c2
        obtain ⟨sx, nx, bx⟩ := x
        obtain ⟨sy, ny, by'⟩ := y
        obtain ⟨x1, x2, x3⟩ := e1
        obtain ⟨y1, y2, y3⟩ := e2
        simp only at x1 x2 x3 y1 y2 y3
        have hq : ∀ w, (binOp .neq 28 (.agg #[.string sx, .int .i64 nx, .bool bx]) (.agg #[.string sy, .int .i64 ny, .bool by'])).run Try.prog w = .ok (.bool (!decide (((sx, nx, bx) : Leaf) = (sy, ny, by')))) w := fun w => neq_leaf sx sy nx ny bx by' w
        have hg : Try.prog.eqGuardType Try.prog.depth 28 = false := by kernel_rfl
        by_cases hxy : ((sx, nx, bx) : Leaf) = (sy, ny, by')
        · rw [decide_eq_true hxy] at hq
          have HXY : Hid (((sx, nx, bx) : Leaf) = (sy, ny, by')) := hxy
          clear hxy
          go_wp2
          go_quiet (fail)
          go_wp2
          go_roundw
          case rel => exact ⟨k + 1, by omega, by go_num, fun j hj => by
            rcases Nat.lt_succ_iff_lt_or_eq.1 hj with h | rfl
            · exact HK.out j h
            · rw [← HX.out, ← HY.out]; exact HXY.out, bel_drew HBE.out _⟩
          case measure => simp [intOf]; omega
        · rw [decide_eq_false hxy] at hq
          have HNE : Hid (decide (a = b) = false) := by
            rw [Hid, decide_eq_false_iff_not]; intro e
            apply hxy; rw [HX.out, HY.out, e]
          clear hxy
          go_wp2
          go_quiet (fail)
          go_wp2
          go_ret
          exact ⟨by rw [HNE.out]; rfl, bel_drew HBE.out _⟩
      · obtain rfl : k = n := by omega
        have HEQ : Hid (decide (a = b) = true) := by
          rw [Hid, decide_eq_true_eq]
          apply List.ext_getElem?
          intro i
          by_cases hi : i < k
          · have := HK.out i hi
            rw [List.getD_eq_getElem?_getD, List.getD_eq_getElem?_getD, List.getElem?_eq_getElem (by rw [HA.out]; exact hi), List.getElem?_eq_getElem (by rw [HB.out]; exact hi)] at this
            rw [List.getElem?_eq_getElem (by rw [HA.out]; exact hi), List.getElem?_eq_getElem (by rw [HB.out]; exact hi)]
            simpa using this
          · rw [List.getElem?_eq_none (by rw [HA.out]; omega), List.getElem?_eq_none (by rw [HB.out]; omega)]
        go_wp2
        go_ret
        exact ⟨by rw [HEQ.out]; rfl, HBE.out⟩
  · have hnm' : ((n : Int) == (m : Int)) = false := by simp; omega
    have HE : Hid (decide (a = b) = false) := by
      rw [Hid, decide_eq_false_iff_not]; rintro rfl; omega
    clear ha hb hlf hlg
    go_enter Try.func7, Try.ntmps7
    go_wp2
    go_ret
    exact ⟨by rw [HE.out]; rfl, Below.refl _ _⟩

end Lk
end Go.Proofs.Ytaefoieoachdfaa
