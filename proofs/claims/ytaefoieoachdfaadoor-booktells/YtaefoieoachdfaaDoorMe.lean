/- What the reference's Write and Strike answer, of a book that is right. -/
import Derived.Test.YtaefoieoachdfaaDoorMd
namespace Go.Proofs.YtaefoieoachdfaaDoor
namespace Me
set_option linter.unusedVariables false
open Go.ChangeShapes Go.WideShapes Go.ChangeAt Go.RowKit Bm Ka Kb La Lb Lc Ld Le Lf Lg Lh Li Lj Lk Lp Mb Mc Md

def wrL (l : List Leaf) (p : ByteArray) (c : Int) : List Leaf := if wrE l p c = 0 then putL l p (wrX l p c) else []
def stL (l : List Leaf) (p : ByteArray) : List Leaf := if putE l p = 0 then putL l p (stX l p) else []
theorem put_no {l : List Leaf} {p : ByteArray} (hh : has l p.toList = false) (x : Leaf) : putE l p = (if 300 ≤ l.length then 4 else 0) ∧ (if putE l p = 0 then putL l p x else []) = (if 300 ≤ l.length then [] else l.take (ahd l p.toList) ++ x :: l.drop (ahd l p.toList)) := by
  by_cases h : 300 ≤ l.length
  · have e : putE l p = 4 := by unfold putE; rw [if_pos ⟨hh, h⟩]
    rw [e, if_pos h, if_pos h]; exact ⟨rfl, rfl⟩
  · have e : putE l p = 0 := putE_zero.2 (Or.inr (by omega))
    rw [e, if_neg h, if_neg h, if_pos rfl]
    exact ⟨rfl, by unfold putL; rw [hh]; rfl⟩
theorem put_is {l : List Leaf} {p : ByteArray} (hh : has l p.toList = true) (x : Leaf) : putE l p = 0 ∧ (if putE l p = 0 then putL l p x else []) = l.take (ahd l p.toList) ++ x :: l.drop (ahd l p.toList + 1) := by
  have e : putE l p = 0 := putE_zero.2 (Or.inl hh)
  rw [e, if_pos rfl]
  exact ⟨rfl, by unfold putL; rw [hh]; rfl⟩

set_option maxRecDepth 100000 in
set_option maxHeartbeats 4000000 in
theorem write_loc (v : Value) (l : List Leaf) (p : ByteArray) (c : Int) (w : World) (h : BookAt w v l) (hb : bookE l = 0) :
    Calls Tryd.prog 17 #[v, .string p, .int .i64 c] w fun e w' => ∃ v', e = .returned (.tuple #[v', .int .i64 (wrE l p c)]) ∧ BookNew w.heap.size w' v' (wrL l p c) ∧ Below w.heap.size w w' := by
  have hok := book_ok hb
  have hle := ahead_le (p := p.toList) hok.2.1
  obtain ⟨q, c0, hv, hlf, hc1, hc2, hq0⟩ := id h
  have HBK : Hid (BookAt w v l) := h
  have h300 := hok.1
  obtain ⟨n, hn⟩ : ∃ n, l.length = n := ⟨_, rfl⟩
  have CA := ahead_ref q n c0 l p w hn hlf (by omega)
  have CL := fun W => letter_ref c W
  cases hc : isL c
  · have HE : Hid (wrE l p c = 1) := by unfold Hid wrE; rw [if_pos hc]
    have HL : Hid (wrL l p c = []) := by unfold Hid wrL; rw [HE.out]; rfl
    rw [hc] at CL
    rw [HE.out, HL.out]
    clear h hb hok hle hlf hc1 hc2 hq0 hn hv CA HE HL hc h300 HBK
    go_enter Tryd.func17, Tryd.ntmps17
    go_wp2_with fail
    refine (CL _).mono ?_
    rintro e w2 ⟨rfl, hw⟩
    have hw2 := hw.symm; subst hw2; clear hw CL
    go_wp2_with fail
    go_ret2
    exact ⟨_, rfl, BookNew.nil _ _, Below.refl _ _⟩
  · rw [hc] at CL
    cases hh : has l p.toList
    · have hlk : leafAt l p = (p, 0, false) := by unfold leafAt; rw [hh]; rfl
      have hE0 : wrE l p c = putE l p := by unfold wrE; rw [if_neg (by rw [hc]; decide), hlk]; rfl
      have hX0 : wrX l p c = (p, c, false) := by unfold wrX; rw [hlk]
      have hL0 : wrL l p c = (if putE l p = 0 then putL l p (p, c, false) else []) := by unfold wrL; rw [hE0, hX0]
      rw [hL0, hE0, (put_no hh (p, c, false)).2, (put_no hh (p, c, false)).1]
      clear hE0 hX0 hL0
      have HST : Hid (∀ W, Below w.heap.size w W → Calls Tryd.prog 42 #[v, .int .i64 (ahd l p.toList), .bool false, .agg #[.string p, .int .i64 c, .bool false]] W fun e w' => ∃ v', e = .returned (.tuple #[v', .int .i64 (if 300 ≤ l.length then 4 else 0)]) ∧ BookNew W.heap.size w' v' (if 300 ≤ l.length then [] else l.take (ahd l p.toList) ++ (p, c, false) :: l.drop (ahd l p.toList)) ∧ Below W.heap.size W w') := fun W hbw => set_f v l _ p c false W (HBK.out.below hbw) hle h300
      have HB1 : Hid (Below w.heap.size w (w.alloc (.cells #[.string p, .int .i64 c, .bool false] 39))) := (Below.refl _ w).alloc (Nat.le_refl _) _
      obtain ⟨R, hR⟩ : ∃ R, R = (if 300 ≤ l.length then [] else l.take (ahd l p.toList) ++ (p, c, false) :: l.drop (ahd l p.toList)) := ⟨_, rfl⟩
      obtain ⟨z, hz⟩ : ∃ z : Int, z = (if 300 ≤ l.length then 4 else 0) := ⟨_, rfl⟩
      rw [← hR, ← hz] at HST ⊢
      rw [hn] at hle h300 hv
      subst hv
      have hhu := hh
      unfold has at hhu
      obtain ⟨i, hi⟩ : ∃ i, i = ahd l p.toList := ⟨_, rfl⟩
      rw [← hi] at HST CA hle hhu
      clear hR hz
      by_cases hin : i < n
      · have hinz : (i : Int) < n := by omega
        obtain ⟨b, o, rfl, hcc⟩ := hlf.some (by rintro rfl; simp at hn; omega)
        obtain ⟨a1, a2, a3⟩ := hcc i (by omega)
        rw [hn, decide_eq_true hin, Bool.true_and] at hhu
        obtain ⟨x, hx⟩ : ∃ x, x = l.getD i none0 := ⟨_, rfl⟩
        rw [← hx] at a1 a2 a3 hhu
        obtain ⟨s0, n0, b0⟩ := x
        simp only at a1 a2 a3 hhu
        clear h hb hok hlf hc1 hc2 hq0 hn hh hlk hi hcc hx HBK
        go_enter Tryd.func17, Tryd.ntmps17
        go_wp2_with fail
        refine (CL _).mono ?_
        rintro e w2 ⟨rfl, hw⟩
        have hw2 := hw.symm; subst hw2; clear hw CL
        go_wp2_with fail
        refine CA.mono ?_
        rintro e w3 ⟨rfl, hw⟩
        have hw2 := hw.symm; subst hw2; clear hw CA
        go_wp2_with fail
        refine (HST.out _ (HB1.out)).mono ?_
        rintro e w4 ⟨v4, rfl, hk4, hb4⟩
        have HB4 : Hid (Below w.heap.size w w4) := bel HB1.out hb4
        have HK4 : Hid (BookNew w.heap.size w4 v4 (R)) := hk4.mono HB1.out.size
        clear hk4 hb4
        go_wp2_with fail
        go_ret2
        exact ⟨_, rfl, HK4.out, HB4.out⟩
      · have hinz : ¬ (i : Int) < n := by omega
        clear h hb hok hlf hc1 hc2 hq0 hn hh hlk hi HBK hhu
        go_enter Tryd.func17, Tryd.ntmps17
        go_wp2_with fail
        refine (CL _).mono ?_
        rintro e w2 ⟨rfl, hw⟩
        have hw2 := hw.symm; subst hw2; clear hw CL
        go_wp2_with fail
        refine CA.mono ?_
        rintro e w3 ⟨rfl, hw⟩
        have hw2 := hw.symm; subst hw2; clear hw CA
        go_wp2_with fail
        refine (HST.out _ (HB1.out)).mono ?_
        rintro e w4 ⟨v4, rfl, hk4, hb4⟩
        have HB4 : Hid (Below w.heap.size w w4) := bel HB1.out hb4
        have HK4 : Hid (BookNew w.heap.size w4 v4 (R)) := hk4.mono HB1.out.size
        clear hk4 hb4
        go_wp2_with fail
        go_ret2
        exact ⟨_, rfl, HK4.out, HB4.out⟩
    · have hin : ahd l p.toList < l.length := by unfold has at hh; rw [Bool.and_eq_true, decide_eq_true_eq] at hh; exact hh.1
      have hkey := leafAt_has hok.2.1 hh
      have hlk : leafAt l p = l.getD (ahd l p.toList) none0 := by unfold leafAt; rw [hh]; rfl
      obtain ⟨b, o, rfl, hcc⟩ := hlf.some (by rintro rfl; simp at hin)
      obtain ⟨a1, a2, a3⟩ := hcc _ hin
      rw [← hlk] at a1 a2 a3
      obtain ⟨x, hx⟩ : ∃ x, x = leafAt l p := ⟨_, rfl⟩
      rw [← hx] at a1 a2 a3 hkey
      obtain ⟨p0, n0, b0⟩ := x
      obtain ⟨_, hp0⟩ := hkey
      simp only at hp0 a1 a2 a3
      subst hp0
      have HST : Hid (∀ W, Below w.heap.size w W → Calls Tryd.prog 42 #[v, .int .i64 (ahd l p0.toList), .bool true, .agg #[.string p0, .int .i64 c, .bool b0]] W fun e w' => ∃ v', e = .returned (.tuple #[v', .int .i64 0]) ∧ BookNew W.heap.size w' v' (l.take (ahd l p0.toList) ++ (p0, c, b0) :: l.drop (ahd l p0.toList + 1)) ∧ Below W.heap.size W w') := fun W hbw => set_t v l _ p0 c b0 W (HBK.out.below hbw) hin h300
      have HB1 : Hid (Below w.heap.size w (w.alloc (.cells #[.string p0, .int .i64 c, .bool b0] 39))) := (Below.refl _ w).alloc (Nat.le_refl _) _
      obtain ⟨R, hR⟩ : ∃ R, R = l.take (ahd l p0.toList) ++ (p0, c, b0) :: l.drop (ahd l p0.toList + 1) := ⟨_, rfl⟩
      have HPI := put_is hh (p0, c, b0)
      rw [← hR] at HST HPI
      rw [hn] at hle h300 hv hin
      subst hv
      obtain ⟨i, hi⟩ : ∃ i, i = ahd l p0.toList := ⟨_, rfl⟩
      rw [← hi] at HST CA hle a1 a2 a3 hin
      have A2 := fun O => old_one w O _ _ a2
      have A3 := fun O => old_one w O _ _ a3
      have hinz : (i : Int) < n := by omega
      clear hR
      cases hcl : clash (p0, n0, b0) c
      · have hE0 : wrE l p0 c = 0 := by unfold wrE; rw [if_neg (by rw [hc]; decide), ← hx, hcl]; exact HPI.1
        have hL0 : wrL l p0 c = R := by
          have hX0 : wrX l p0 c = (p0, c, b0) := by unfold wrX; rw [← hx]
          unfold wrL; rw [hE0, if_pos rfl, hX0]
          have := HPI.2; rw [HPI.1, if_pos rfl] at this; exact this
        rw [hE0, hL0]
        clear h hb hok hlf hc1 hc2 hq0 hn hh hlk hi hcc hx HBK HPI hE0 hL0 hc
        by_cases hn0 : n0 = 0
        · subst hn0
          clear hcl
          go_enter Tryd.func17, Tryd.ntmps17
          go_wp2_with fail
          refine (CL _).mono ?_
          rintro e w2 ⟨rfl, hw⟩
          have hw2 := hw.symm; subst hw2; clear hw CL
          go_wp2_with fail
          refine CA.mono ?_
          rintro e w3 ⟨rfl, hw⟩
          have hw2 := hw.symm; subst hw2; clear hw CA
          go_wp2_with fail
          refine (HST.out _ (HB1.out)).mono ?_
          rintro e w4 ⟨v4, rfl, hk4, hb4⟩
          have HB4 : Hid (Below w.heap.size w w4) := bel HB1.out hb4
          have HK4 : Hid (BookNew w.heap.size w4 v4 (R)) := hk4.mono HB1.out.size
          clear hk4 hb4
          go_wp2_with fail
          go_ret2
          exact ⟨_, rfl, HK4.out, HB4.out⟩
        · have hn1 : (n0 != 0) = true := by simpa using hn0
          have ecn : c = n0 := by
            unfold clash at hcl
            rw [Bool.and_eq_false_iff] at hcl
            rcases hcl with e | e
            · rw [hn1] at e; cases e
            · have e2 : n0 = c := by simpa using e
              exact e2.symm
          subst ecn
          clear hcl
          go_enter Tryd.func17, Tryd.ntmps17
          go_wp2_with fail
          refine (CL _).mono ?_
          rintro e w2 ⟨rfl, hw⟩
          have hw2 := hw.symm; subst hw2; clear hw CL
          go_wp2_with fail
          refine CA.mono ?_
          rintro e w3 ⟨rfl, hw⟩
          have hw2 := hw.symm; subst hw2; clear hw CA
          go_wp2_with fail
          refine (HST.out _ (HB1.out)).mono ?_
          rintro e w4 ⟨v4, rfl, hk4, hb4⟩
          have HB4 : Hid (Below w.heap.size w w4) := bel HB1.out hb4
          have HK4 : Hid (BookNew w.heap.size w4 v4 (R)) := hk4.mono HB1.out.size
          clear hk4 hb4
          go_wp2_with fail
          go_ret2
          exact ⟨_, rfl, HK4.out, HB4.out⟩
      · have hE0 : wrE l p0 c = 7 := by unfold wrE; rw [if_neg (by rw [hc]; decide), ← hx, hcl]; rfl
        have hL0 : wrL l p0 c = [] := by unfold wrL; rw [hE0]; rfl
        rw [hE0, hL0]
        unfold clash at hcl
        rw [Bool.and_eq_true] at hcl
        obtain ⟨hn1, hn2⟩ := hcl
        simp only at hn1 hn2
        have hn0 : ¬ n0 = 0 := by simpa using hn1
        clear h hb hok hlf hc1 hc2 hq0 hn hh hlk hi hcc hx HBK HPI hE0 hL0 hc HST HB1
        go_enter Tryd.func17, Tryd.ntmps17
        go_wp2_with fail
        refine (CL _).mono ?_
        rintro e w2 ⟨rfl, hw⟩
        have hw2 := hw.symm; subst hw2; clear hw CL
        go_wp2_with fail
        refine CA.mono ?_
        rintro e w3 ⟨rfl, hw⟩
        have hw2 := hw.symm; subst hw2; clear hw CA
        go_wp2_with fail
        go_ret2
        exact ⟨_, rfl, BookNew.nil _ _, (Below.refl _ w).alloc (Nat.le_refl _) _⟩

set_option maxRecDepth 100000 in
set_option maxHeartbeats 4000000 in
theorem strike_loc (v : Value) (l : List Leaf) (p : ByteArray) (w : World) (h : BookAt w v l) (hb : bookE l = 0) :
    Calls Tryd.prog 20 #[v, .string p] w fun e w' => ∃ v', e = .returned (.tuple #[v', .int .i64 (putE l p)]) ∧ BookNew w.heap.size w' v' (stL l p) ∧ Below w.heap.size w w' := by
  have hok := book_ok hb
  have hle := ahead_le (p := p.toList) hok.2.1
  obtain ⟨q, c0, hv, hlf, hc1, hc2, hq0⟩ := id h
  have HBK : Hid (BookAt w v l) := h
  have h300 := hok.1
  obtain ⟨n, hn⟩ : ∃ n, l.length = n := ⟨_, rfl⟩
  have CA := ahead_ref q n c0 l p w hn hlf (by omega)
  cases hh : has l p.toList
  · have hlk : leafAt l p = (p, 0, false) := by unfold leafAt; rw [hh]; rfl
    have hX0 : stX l p = (p, 0, true) := by unfold stX; rw [hlk]
    have hL0 : stL l p = (if putE l p = 0 then putL l p (p, 0, true) else []) := by unfold stL; rw [hX0]
    rw [hL0, (put_no hh (p, 0, true)).2, (put_no hh (p, 0, true)).1]
    clear hX0 hL0
    have HST : Hid (∀ W, Below w.heap.size w W → Calls Tryd.prog 42 #[v, .int .i64 (ahd l p.toList), .bool false, .agg #[.string p, .int .i64 0, .bool true]] W fun e w' => ∃ v', e = .returned (.tuple #[v', .int .i64 (if 300 ≤ l.length then 4 else 0)]) ∧ BookNew W.heap.size w' v' (if 300 ≤ l.length then [] else l.take (ahd l p.toList) ++ (p, 0, true) :: l.drop (ahd l p.toList)) ∧ Below W.heap.size W w') := fun W hbw => set_f v l _ p 0 true W (HBK.out.below hbw) hle h300
    have HB1 : Hid (Below w.heap.size w (w.alloc (.cells #[.string p, .int .i64 0, .bool true] 39))) := (Below.refl _ w).alloc (Nat.le_refl _) _
    obtain ⟨R, hR⟩ : ∃ R, R = (if 300 ≤ l.length then [] else l.take (ahd l p.toList) ++ (p, 0, true) :: l.drop (ahd l p.toList)) := ⟨_, rfl⟩
    obtain ⟨z, hz⟩ : ∃ z : Int, z = (if 300 ≤ l.length then 4 else 0) := ⟨_, rfl⟩
    rw [← hR, ← hz] at HST ⊢
    rw [hn] at hle h300 hv
    subst hv
    have hhu := hh
    unfold has at hhu
    obtain ⟨i, hi⟩ : ∃ i, i = ahd l p.toList := ⟨_, rfl⟩
    rw [← hi] at HST CA hle hhu
    clear hR hz
    by_cases hin : i < n
    · have hinz : (i : Int) < n := by omega
      obtain ⟨b, o, rfl, hcc⟩ := hlf.some (by rintro rfl; simp at hn; omega)
      obtain ⟨a1, a2, a3⟩ := hcc i (by omega)
      rw [hn, decide_eq_true hin, Bool.true_and] at hhu
      obtain ⟨x, hx⟩ : ∃ x, x = l.getD i none0 := ⟨_, rfl⟩
      rw [← hx] at a1 a2 a3 hhu
      obtain ⟨s0, n0, b0⟩ := x
      simp only at a1 a2 a3 hhu
      clear h hb hok hlf hc1 hc2 hq0 hn hh hlk hi hcc hx HBK
      go_enter Tryd.func20, Tryd.ntmps20
      go_wp2_with fail
      refine CA.mono ?_
      rintro e w3 ⟨rfl, hw⟩
      have hw2 := hw.symm; subst hw2; clear hw CA
      go_wp2_with fail
      refine (HST.out _ (HB1.out)).mono ?_
      rintro e w4 ⟨v4, rfl, hk4, hb4⟩
      have HB4 : Hid (Below w.heap.size w w4) := bel HB1.out hb4
      have HK4 : Hid (BookNew w.heap.size w4 v4 (R)) := hk4.mono HB1.out.size
      clear hk4 hb4
      go_wp2_with fail
      go_ret2
      exact ⟨_, rfl, HK4.out, HB4.out⟩
    · have hinz : ¬ (i : Int) < n := by omega
      clear h hb hok hlf hc1 hc2 hq0 hn hh hlk hi HBK hhu
      go_enter Tryd.func20, Tryd.ntmps20
      go_wp2_with fail
      refine CA.mono ?_
      rintro e w3 ⟨rfl, hw⟩
      have hw2 := hw.symm; subst hw2; clear hw CA
      go_wp2_with fail
      refine (HST.out _ (HB1.out)).mono ?_
      rintro e w4 ⟨v4, rfl, hk4, hb4⟩
      have HB4 : Hid (Below w.heap.size w w4) := bel HB1.out hb4
      have HK4 : Hid (BookNew w.heap.size w4 v4 (R)) := hk4.mono HB1.out.size
      clear hk4 hb4
      go_wp2_with fail
      go_ret2
      exact ⟨_, rfl, HK4.out, HB4.out⟩
  · have hin : ahd l p.toList < l.length := by unfold has at hh; rw [Bool.and_eq_true, decide_eq_true_eq] at hh; exact hh.1
    have hkey := leafAt_has hok.2.1 hh
    have hlk : leafAt l p = l.getD (ahd l p.toList) none0 := by unfold leafAt; rw [hh]; rfl
    obtain ⟨b, o, rfl, hcc⟩ := hlf.some (by rintro rfl; simp at hin)
    obtain ⟨a1, a2, a3⟩ := hcc _ hin
    rw [← hlk] at a1 a2 a3
    obtain ⟨x, hx⟩ : ∃ x, x = leafAt l p := ⟨_, rfl⟩
    rw [← hx] at a1 a2 a3 hkey
    obtain ⟨p0, n0, b0⟩ := x
    obtain ⟨_, hp0⟩ := hkey
    simp only at hp0 a1 a2 a3
    subst hp0
    have HST : Hid (∀ W, Below w.heap.size w W → Calls Tryd.prog 42 #[v, .int .i64 (ahd l p0.toList), .bool true, .agg #[.string p0, .int .i64 n0, .bool true]] W fun e w' => ∃ v', e = .returned (.tuple #[v', .int .i64 0]) ∧ BookNew W.heap.size w' v' (l.take (ahd l p0.toList) ++ (p0, n0, true) :: l.drop (ahd l p0.toList + 1)) ∧ Below W.heap.size W w') := fun W hbw => set_t v l _ p0 n0 true W (HBK.out.below hbw) hin h300
    have HB1 : Hid (Below w.heap.size w (w.alloc (.cells #[.string p0, .int .i64 n0, .bool true] 39))) := (Below.refl _ w).alloc (Nat.le_refl _) _
    obtain ⟨R, hR⟩ : ∃ R, R = l.take (ahd l p0.toList) ++ (p0, n0, true) :: l.drop (ahd l p0.toList + 1) := ⟨_, rfl⟩
    have HPI := put_is hh (p0, n0, true)
    rw [← hR] at HST HPI
    rw [hn] at hle h300 hv hin
    subst hv
    obtain ⟨i, hi⟩ : ∃ i, i = ahd l p0.toList := ⟨_, rfl⟩
    rw [← hi] at HST CA hle a1 a2 a3 hin
    have A2 := fun O => old_one w O _ _ a2
    have A3 := fun O => old_one w O _ _ a3
    have hinz : (i : Int) < n := by omega
    have hL0 : stL l p0 = R := by
      have hX0 : stX l p0 = (p0, n0, true) := by unfold stX; rw [← hx]
      unfold stL; rw [HPI.1, if_pos rfl, hX0]
      have := HPI.2; rw [HPI.1, if_pos rfl] at this; exact this
    rw [HPI.1, hL0]
    clear hR h hb hok hlf hc1 hc2 hq0 hn hh hlk hi hcc hx HBK HPI hL0
    go_enter Tryd.func20, Tryd.ntmps20
    go_wp2_with fail
    refine CA.mono ?_
    rintro e w3 ⟨rfl, hw⟩
    have hw2 := hw.symm; subst hw2; clear hw CA
    go_wp2_with fail
    refine (HST.out _ (HB1.out)).mono ?_
    rintro e w4 ⟨v4, rfl, hk4, hb4⟩
    have HB4 : Hid (Below w.heap.size w w4) := bel HB1.out hb4
    have HK4 : Hid (BookNew w.heap.size w4 v4 (R)) := hk4.mono HB1.out.size
    clear hk4 hb4
    go_wp2_with fail
    go_ret2
    exact ⟨_, rfl, HK4.out, HB4.out⟩

theorem write_ref (v : Value) (l : List Leaf) (p : ByteArray) (c : Int) (w : World) (h : BookAt w v l) (hb : bookE l = 0) :
    Calls Tryd.prog 17 #[v, .string p, .int .i64 c] w fun e w' => ∃ v', e = .returned (.tuple #[v', .int .i64 (wrE l p c)]) ∧ BookAt w' v' (wrL l p c) ∧ Below w.heap.size w w' :=
  (write_loc v l p c w h hb).mono fun e w' ⟨v', h1, h2, h3⟩ => ⟨v', h1, h2.1, h3⟩
theorem strike_ref (v : Value) (l : List Leaf) (p : ByteArray) (w : World) (h : BookAt w v l) (hb : bookE l = 0) :
    Calls Tryd.prog 20 #[v, .string p] w fun e w' => ∃ v', e = .returned (.tuple #[v', .int .i64 (putE l p)]) ∧ BookAt w' v' (stL l p) ∧ Below w.heap.size w w' :=
  (strike_loc v l p w h hb).mono fun e w' ⟨v', h1, h2, h3⟩ => ⟨v', h1, h2.1, h3⟩

end Me
end Go.Proofs.YtaefoieoachdfaaDoor
