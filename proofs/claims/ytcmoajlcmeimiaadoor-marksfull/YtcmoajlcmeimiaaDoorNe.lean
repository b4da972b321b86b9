/- What marks.Check and marks.checkWith answer, at all marks. -/
import Derived.Test.YtcmoajlcmeimiaaDoorNd
namespace Go.Proofs.YtcmoajlcmeimiaaDoor
namespace Nse
set_option linter.unusedVariables false
open Go.ChangeShapes Go.WideShapes Go.ChangeAt Go.RowKit Cm Ka Kb Na Nb Nc Nd
open La (bel bel_drew errV_zero errV_ne own_ge own_grow own_below)

theorem checkM_any (v : Value) (l : List Mk) (w : World) (h : MksAt w v l) (hs : ∀ x ∈ l, x.1.size ≤ maxLen) :
    Calls Tryd.prog 8 #[v] w fun e w' => e = .returned (errV (marksE l)) ∧ Below w.heap.size w w' := by
  obtain ⟨p, c, rfl, hlf, hc, hcm, _⟩ := h
  exact rising_any p l.length c l w rfl hlf hs (Nat.le_trans hc hcm)

theorem checkMWith_any (v : Value) (l : List Mk) (s : ByteArray) (w : World) (h : MksAt w v l) (hs : ∀ x ∈ l, x.1.size ≤ maxLen) (hp : s.size ≤ maxLen) :
    Calls Tryd.prog 42 #[v, .string s] w fun e w' => e = .returned (errV (seenE l s)) ∧ Below w.heap.size w w' := by
  have C := checkM_any v l w h hs
  have C2 := fun w => check_any s w hp
  clear h hs hp
  by_cases h0 : marksE l = 0
  · rw [h0, errV_zero] at C
    have HE : Hid (seenE l s = Pm.chk s.toList) := by unfold Hid seenE; rw [if_neg (by simpa using h0)]
    rw [HE.out]
    clear h0 HE
    go_enter Tryd.func42, Tryd.ntmps42
    go_wp2_with fail
    refine C.mono ?_
    rintro e w2 ⟨rfl, hb2⟩
    have HB2 : Hid (Below w.heap.size w w2) := hb2
    clear hb2 C
    go_wp2_with fail
    refine (C2 _).mono ?_
    rintro e w3 ⟨rfl, hw⟩
    have hw2 := hw.symm; subst hw2; clear hw C2
    go_wp2_with fail
    go_ret
    exact ⟨rfl, HB2.out⟩
  · obtain ⟨q, hq⟩ : ∃ q, q = marksE l := ⟨_, rfl⟩
    have HE : Hid (errV (seenE l s) = .iface 74 (.int .i64 q)) := by unfold Hid seenE; rw [if_pos h0, hq, errV_ne h0]
    rw [errV_ne h0, ← hq] at C
    rw [HE.out]
    clear h0 hq C2 HE
    go_enter Tryd.func42, Tryd.ntmps42
    go_wp2_with fail
    refine C.mono ?_
    rintro e w2 ⟨rfl, hb2⟩
    have HB2 : Hid (Below w.heap.size w w2) := hb2
    clear hb2 C
    go_wp2_with fail
    go_ret
    exact ⟨rfl, HB2.out⟩

/- the search: how many stand below a mark, and whether it is there -/
theorem pos_eq {l : List Mk} {m : Mk} {i : Nat} (hr : Rise mlt l) (hi : i ≤ l.length) (h1 : ∀ k, k < i → mlt (l.getD k none1) m = true) (h2 : ∀ k, i ≤ k → k < l.length → mlt (l.getD k none1) m = false) : pos mlt l m = i := by
  induction l generalizing i with
  | nil => simp at hi; subst hi; rfl
  | cons y l ih =>
    cases i with
    | zero =>
      have e := h2 0 (Nat.le_refl _) (by simp)
      have e2 : mlt y m = false := e
      simp [pos, e2]
    | succ i =>
      have e2 : mlt y m = true := h1 0 (by omega)
      have := ih (i := i) (List.pairwise_cons.1 hr).2 (by simpa using hi) (fun k hk => h1 (k + 1) (by omega)) (fun k hk hk2 => h2 (k + 1) (by omega) (by simpa using hk2))
      unfold pos at this ⊢
      rw [List.takeWhile_cons, if_pos e2, List.length_cons, this]
theorem rise_get {l : List Mk} (hr : Rise mlt l) {i j : Nat} (hij : i < j) (hj : j < l.length) : mlt (l.getD i none1) (l.getD j none1) = true := by
  have h := List.pairwise_iff_getElem.1 hr i j (by omega) hj hij
  rw [List.getD_eq_getElem?_getD, List.getD_eq_getElem?_getD, List.getElem?_eq_getElem (by omega), List.getElem?_eq_getElem hj]
  exact h
/- it is there just if it stands where it would stand -/
theorem there_pos {l : List Mk} {m : Mk} (hr : Rise mlt l) : there l m = (decide (pos mlt l m < l.length) && decide (l.getD (pos mlt l m) none1 = m)) := by
  rw [Bool.eq_iff_iff, there_iff, Bool.and_eq_true, decide_eq_true_eq, decide_eq_true_eq]
  obtain ⟨c1, c2⟩ := cut mlt_strict m hr
  constructor
  · intro hm
    have hd : m ∈ l.drop (pos mlt l m) := by
      have : m ∈ l.take (pos mlt l m) ++ l.drop (pos mlt l m) := by rw [List.take_append_drop]; exact hm
      rcases List.mem_append.1 this with h | h
      · have := c1 m h; rw [mlt_strict.1] at this; cases this
      · exact h
    obtain ⟨j, hj, e⟩ := List.mem_iff_getElem.1 hd
    rw [List.getElem_drop] at e
    rw [List.length_drop] at hj
    have hlt : pos mlt l m < l.length := by omega
    refine ⟨hlt, ?_⟩
    cases j with
    | zero => rw [List.getD_eq_getElem?_getD, List.getElem?_eq_getElem hlt]; simpa using e
    | succ j =>
      exfalso
      have h1 := rise_get hr (i := pos mlt l m) (j := pos mlt l m + (j + 1)) (by omega) (by omega)
      have e3 : l.getD (pos mlt l m + (j + 1)) none1 = m := by rw [List.getD_eq_getElem?_getD, List.getElem?_eq_getElem (by omega)]; simpa using e
      rw [e3] at h1
      have h2 := c2 (l.getD (pos mlt l m) none1) (by
        rw [List.getD_eq_getElem?_getD, List.getElem?_eq_getElem hlt]
        rw [List.drop_eq_getElem_cons hlt]; exact List.mem_cons_self ..)
      rw [h1] at h2; cases h2
  · rintro ⟨h1, h2⟩
    rw [← h2]; exact getM_mem h1

set_option maxRecDepth 100000 in
set_option maxHeartbeats 2000000 in
theorem search_any (q : Option Addr) (n c : Nat) (l : List Mk) (sp : ByteArray) (p1 p2 : Int) (w : World) (hl : l.length = n) (h : MarksIn w q l) (hr : Rise mlt l) (hn : n ≤ 1048576) :
    Calls Tryd.prog 38 #[.slice q n c, .agg #[.string sp, .int .i64 p1, .int .i64 p2], .func (.func 36) #[] #[]] w fun e w' => e = .returned (.tuple #[.int .i64 (pos mlt l (sp, (p1, p2))), .bool (there l (sp, (p1, p2)))]) ∧ Below w.heap.size w w' := by
  have HL : Hid (l.length = n) := hl
  have HI : Hid (MarksIn w q l) := h
  have HR : Hid (Rise mlt l) := hr
  have HNC : Hid (∀ wr, Below (w.alloc (.cells #[.string sp, .int .i64 p1, .int .i64 p2] 26)).heap.size (w.alloc (.cells #[.string sp, .int .i64 p1, .int .i64 p2] 26)) wr → wr.cell? ⟨w.heap.size, 0, none⟩ = some (.string sp) ∧ wr.cell? ⟨w.heap.size, 1, none⟩ = some (.int .i64 p1) ∧ wr.cell? ⟨w.heap.size, 2, none⟩ = some (.int .i64 p2)) := fun wr hb => new_cell (x := (sp, (p1, p2))) hb
  have HB0 : Hid (Below w.heap.size w (w.alloc (.cells #[.string sp, .int .i64 p1, .int .i64 p2] 26))) := (Below.refl _ w).alloc (Nat.le_refl _) _
  obtain ⟨p, hp⟩ : ∃ p : Mk, p = (sp, (p1, p2)) := ⟨_, rfl⟩
  rw [← hp]
  have HPP : Hid (p = (sp, (p1, p2))) := hp
  clear hl h hr hp
  go_enter Tryd.func38, Tryd.ntmps38
  go_wp2
  go_loopw [9, 10, 11] (fun vi vj _ wr => ∃ (i j : Nat), i ≤ j ∧ j ≤ n ∧ vi = .int .i64 i ∧ vj = .int .i64 j ∧ Hid (∀ k, k < i → mlt (l.getD k none1) p = true) ∧ Hid (∀ k, j ≤ k → k < n → mlt (l.getD k none1) p = false) ∧ Hid (Below w.heap.size w wr) ∧ Hid (wr.cell? ⟨w.heap.size, 0, none⟩ = some (.string sp) ∧ wr.cell? ⟨w.heap.size, 1, none⟩ = some (.int .i64 p1) ∧ wr.cell? ⟨w.heap.size, 2, none⟩ = some (.int .i64 p2))) (fun vi vj _ _ => (intOf vj).toNat - (intOf vi).toNat)
  case atStart => exact ⟨0, n, by omega, by omega, rfl, rfl, fun k hk => absurd hk (by omega), fun k h1 h2 => absurd h1 (by omega), HB0, HNC.out _ (Below.refl _ _)⟩
  case round =>
    obtain ⟨i, j, hij, hjn, rfl, rfl, H1, H2, HB, HX0⟩ := hrel
    by_cases hlt : i < j
    · have hltz : (i : Int) < j := by omega
      obtain ⟨m, hm⟩ : ∃ m : Nat, ((i : Int) + j) / 2 = m := ⟨(i + j) / 2, by omega⟩
      have him : i ≤ m := by omega
      have hmj : m < j := by omega
      obtain ⟨b, o, rfl, hc⟩ := HI.out.some (by intro e; have := HL.out; rw [e] at this; simp at this; omega)
      have hml : m < l.length := by rw [HL.out]; omega
      have ha := (hc m hml).below HB.out (hc m hml).lt
      obtain ⟨x, hx⟩ : ∃ x, x = l.getD m none1 := ⟨_, rfl⟩
      rw [← hx] at ha
      have HX : Hid (x = l.getD m none1) := hx
      obtain ⟨sx, x1, x2⟩ := x
      obtain ⟨a1, a2, a3⟩ := ha
      have hmn : (m : Int) < n := by omega
      clear hc hx
      simp only at a1 a2 a3
      have C := fun W => compareMarks_any sx x1 x2 sp p1 p2 W
      have HCL : Hid (mcmp (sx, (x1, x2)) (sp, (p1, p2)) < 0 ↔ mlt (sx, (x1, x2)) p = true) := by rw [HPP.out]; exact mcmp_lt
      obtain ⟨z, hzz⟩ : ∃ z, z = mcmp (sx, (x1, x2)) (sp, (p1, p2)) := ⟨_, rfl⟩
      rw [← hzz] at C HCL
      clear hzz
      obtain ⟨d0, d1, d2⟩ := HX0.out
      by_cases hz : z < 0
      · have H3 : Hid (∀ k, k < m + 1 → mlt (l.getD k none1) p = true) := by
          have h9 := HCL.out.1 hz
          rw [HX.out] at h9
          intro k hk
          rcases Nat.lt_succ_iff_lt_or_eq.1 hk with h | rfl
          · exact mlt_strict.2.1 _ _ _ (rise_get HR.out h hml) h9
          · exact h9
        go_wp2_with fail
        go_region_held3 (fun W => W.cell? ⟨b, o + m * 3, none⟩ = some (.string sx) ∧ W.cell? ⟨b, o + m * 3 + 1, none⟩ = some (.int .i64 x1) ∧ W.cell? ⟨b, o + m * 3 + 2, none⟩ = some (.int .i64 x2) ∧ W.cell? ⟨w.heap.size, 0, none⟩ = some (.string sp) ∧ W.cell? ⟨w.heap.size, 1, none⟩ = some (.int .i64 p1) ∧ W.cell? ⟨w.heap.size, 2, none⟩ = some (.int .i64 p2)) (first | (go_keep; done) | (refine ⟨keep_cell hb7 ?_, keep_cell hb7 ?_, keep_cell hb7 ?_, keep_cell hb7 ?_, keep_cell hb7 ?_, keep_cell hb7 ?_⟩ <;> (go_split_ands; assumption))) (first
          | (go_at_call 36; refine (C _).mono ?_; rintro e w7 ⟨rfl, hb7⟩; have HB7 : Hid (Below w.heap.size w w7) := bel HB.out.drew hb7; have HC7 : Hid (Below wr.heap.size wr w7) := bel (Below.refl _ wr).drew hb7))
        all_goals
          go_wp2_with fail
          go_roundw
          case rel => exact ⟨m + 1, j, by omega, by omega, by go_num, rfl, H3, H2, HB7, ⟨keep_cell HC7.out d0, keep_cell HC7.out d1, keep_cell HC7.out d2⟩⟩
          case measure => simp [intOf]; omega
      · have H3 : Hid (∀ k, m ≤ k → k < n → mlt (l.getD k none1) p = false) := by
          have h9 : mlt (sx, (x1, x2)) p = false := by
            cases h8 : mlt (sx, (x1, x2)) p
            · rfl
            · exact absurd (HCL.out.2 h8) hz
          rw [HX.out] at h9
          intro k hk hk2
          rcases Nat.lt_or_eq_of_le hk with h | rfl
          · cases h8 : mlt (l.getD k none1) p
            · rfl
            · rw [mlt_strict.2.1 _ _ _ (rise_get HR.out h (by rw [HL.out]; exact hk2)) h8] at h9; cases h9
          · exact h9
        go_wp2_with fail
        go_region_held3 (fun W => W.cell? ⟨b, o + m * 3, none⟩ = some (.string sx) ∧ W.cell? ⟨b, o + m * 3 + 1, none⟩ = some (.int .i64 x1) ∧ W.cell? ⟨b, o + m * 3 + 2, none⟩ = some (.int .i64 x2) ∧ W.cell? ⟨w.heap.size, 0, none⟩ = some (.string sp) ∧ W.cell? ⟨w.heap.size, 1, none⟩ = some (.int .i64 p1) ∧ W.cell? ⟨w.heap.size, 2, none⟩ = some (.int .i64 p2)) (first | (go_keep; done) | (refine ⟨keep_cell hb7 ?_, keep_cell hb7 ?_, keep_cell hb7 ?_, keep_cell hb7 ?_, keep_cell hb7 ?_, keep_cell hb7 ?_⟩ <;> (go_split_ands; assumption))) (first
          | (go_at_call 36; refine (C _).mono ?_; rintro e w7 ⟨rfl, hb7⟩; have HB7 : Hid (Below w.heap.size w w7) := bel HB.out.drew hb7; have HC7 : Hid (Below wr.heap.size wr w7) := bel (Below.refl _ wr).drew hb7))
        all_goals
          go_wp2_with fail
          go_roundw
          case rel => exact ⟨i, m, by omega, by omega, rfl, by go_num, H1, H3, HB7, ⟨keep_cell HC7.out d0, keep_cell HC7.out d1, keep_cell HC7.out d2⟩⟩
          case measure => simp [intOf]; omega
    · obtain rfl : i = j := by omega
      have HA : Hid (pos mlt l p = i) := pos_eq HR.out (by rw [HL.out]; exact hjn) H1.out (fun k h1 h2 => H2.out k h1 (by rw [← HL.out]; exact h2))
      have HTP : Hid (there l p = (decide (i < n) && decide (l.getD i none1 = p))) := by
        unfold Hid; rw [there_pos HR.out, HA.out, HL.out]
      by_cases hin : i < n
      · have hinz : (i : Int) < n := by omega
        obtain ⟨b, o, rfl, hc⟩ := HI.out.some (by intro e; have := HL.out; rw [e] at this; simp at this; omega)
        have hil : i < l.length := by rw [HL.out]; omega
        have ha := (hc i hil).below HB.out (hc i hil).lt
        obtain ⟨x, hx⟩ : ∃ x, x = l.getD i none1 := ⟨_, rfl⟩
        rw [← hx] at ha
        have HX : Hid (x = l.getD i none1) := hx
        obtain ⟨sx, x1, x2⟩ := x
        obtain ⟨a1, a2, a3⟩ := ha
        clear hc hx
        simp only at a1 a2 a3
        have C := fun W => compareMarks_any sx x1 x2 sp p1 p2 W
        have HH : Hid (there l p = (mcmp (sx, (x1, x2)) (sp, (p1, p2)) == 0)) := by
          unfold Hid
          rw [HTP.out, decide_eq_true hin, Bool.true_and, ← HX.out, Bool.eq_iff_iff, decide_eq_true_eq, beq_iff_eq, mcmp_eq, HPP.out]
        obtain ⟨z, hzz⟩ : ∃ z, z = mcmp (sx, (x1, x2)) (sp, (p1, p2)) := ⟨_, rfl⟩
        rw [← hzz] at C HH
        clear hzz HTP
        obtain ⟨d0, d1, d2⟩ := HX0.out
        go_wp2_with fail
        go_region_held3 (fun W => W.cell? ⟨b, o + i * 3, none⟩ = some (.string sx) ∧ W.cell? ⟨b, o + i * 3 + 1, none⟩ = some (.int .i64 x1) ∧ W.cell? ⟨b, o + i * 3 + 2, none⟩ = some (.int .i64 x2) ∧ W.cell? ⟨w.heap.size, 0, none⟩ = some (.string sp) ∧ W.cell? ⟨w.heap.size, 1, none⟩ = some (.int .i64 p1) ∧ W.cell? ⟨w.heap.size, 2, none⟩ = some (.int .i64 p2)) (first | (go_keep; done) | (refine ⟨keep_cell hb7 ?_, keep_cell hb7 ?_, keep_cell hb7 ?_, keep_cell hb7 ?_, keep_cell hb7 ?_, keep_cell hb7 ?_⟩ <;> (go_split_ands; assumption))) (first
          | (go_at_call 36; refine (C _).mono ?_; rintro e w7 ⟨rfl, hb7⟩; have HB7 : Hid (Below w.heap.size w w7) := bel HB.out.drew hb7; have HC7 : Hid (Below wr.heap.size wr w7) := bel (Below.refl _ wr).drew hb7))
        all_goals
          go_wp2_with fail
          go_ret2
          exact ⟨by rw [HA.out, HH.out]; rfl, HB7.out⟩
      · have hinz : ¬ (i : Int) < n := by omega
        have hind : decide (i < n) = false := by simpa using hin
        have HH : Hid (there l p = false) := by
          unfold Hid; rw [HTP.out, hind]; rfl
        go_wp2_with fail
        go_quiet (fail)
        go_wp2_with fail
        go_ret2
        exact ⟨by rw [HA.out, HH.out]; rfl, bel_drew HB.out _⟩

end Nse
end Go.Proofs.YtcmoajlcmeimiaaDoor
