/- What checkSeen answers, of the dots that a join saw. -/
import Derived.Test.YtcmoajlcmeimiaaDoorNd
import Derived.Laws.StructEq
namespace Go.Proofs.YtcmoajlcmeimiaaDoor
namespace Nj
set_option linter.unusedVariables false
open Go.ChangeShapes Go.WideShapes Go.ChangeAt Go.RowKit Cm Ka Kb Na Nb Nc Nd
open La (bel bel_drew errV_zero errV_ne own_ge own_grow own_below)

theorem dotsE_fault : ∀ {s : List Dt} {k : Nat}, k < s.length → (∀ j, j < k → dotE (s.getD j noneD).1 (s.getD j noneD).2 = 0) → dotE (s.getD k noneD).1 (s.getD k noneD).2 ≠ 0 → dotsE s = dotE (s.getD k noneD).1 (s.getD k noneD).2 := by
  intro s k hk h1 h2
  have key : ∀ (s : List Dt) (k : Nat), k < s.length → (∀ j, j < k → dotE (s.getD j noneD).1 (s.getD j noneD).2 = 0) → dotE (s.getD k noneD).1 (s.getD k noneD).2 ≠ 0 → s.find? (fun d => decide (dotE d.1 d.2 ≠ 0)) = some (s.getD k noneD) := by
    intro s
    induction s with
    | nil => intro k hk; simp at hk
    | cons y s ih =>
      intro k hk h1 h2
      cases k with
      | zero =>
        have h3 : dotE y.1 y.2 ≠ 0 := h2
        rw [List.find?_cons_of_pos (by simpa using h3)]; rfl
      | succ k =>
        have h3 : dotE y.1 y.2 = 0 := h1 0 (by omega)
        rw [List.find?_cons_of_neg (by simpa using h3)]
        exact ih k (by simpa using hk) (fun j hj => h1 (j + 1) (by omega)) h2
  unfold dotsE
  rw [key s k hk h1 h2]
theorem all_zero {s : List Dt} (h : ∀ j, j < s.length → dotE (s.getD j noneD).1 (s.getD j noneD).2 = 0) : ∀ d ∈ s, dotE d.1 d.2 = 0 := by
  intro d hd
  obtain ⟨j, hj, e⟩ := List.mem_iff_getElem.1 hd
  have := h j hj
  rw [List.getD_eq_getElem?_getD, List.getElem?_eq_getElem hj] at this
  simp only [Option.getD_some] at this
  rw [e] at this; exact this
theorem dotsE_cases {s : List Dt} (h : ∀ d ∈ s, dotE d.1 d.2 = 0) : dotsE s = 0 ∨ dotsE s = 7 := by
  unfold dotsE
  cases hf : s.find? (fun d => decide (dotE d.1 d.2 ≠ 0)) with
  | some d =>
    have h1 := List.mem_of_find?_eq_some hf
    have h2 := List.find?_some hf
    simp only [decide_eq_true_eq] at h2
    exact absurd (h d h1) h2
  | none => simp only []; split <;> simp
theorem dotsE_seven {s : List Dt} {m : Nat} (h : ∀ d ∈ s, dotE d.1 d.2 = 0) (hm : m + 1 < s.length) (h2 : dlt (s.getD m noneD) (s.getD (m + 1) noneD) = false) : dotsE s = 7 := by
  rcases dotsE_cases h with e | e
  · have hr := (dotsE_zero.1 e).2
    have h3 := (rise_steps dlt_strict).1 hr m hm (s.getD m noneD) (s.getD (m + 1) noneD) (by rw [List.getD_eq_getElem?_getD, List.getElem?_eq_getElem (by omega)]; rfl) (by rw [List.getD_eq_getElem?_getD, List.getElem?_eq_getElem hm]; rfl)
    rw [h2] at h3; cases h3
  · exact e
theorem dotsE_ok {s : List Dt} (h : ∀ d ∈ s, dotE d.1 d.2 = 0) (h2 : ∀ m, m + 1 < s.length → dlt (s.getD m noneD) (s.getD (m + 1) noneD) = true) : dotsE s = 0 := by
  refine dotsE_zero.2 ⟨h, (rise_steps dlt_strict).2 fun i hi a b ha hb => ?_⟩
  have := h2 i hi
  rw [List.getD_eq_getElem?_getD, List.getD_eq_getElem?_getD, ha, hb] at this
  exact this
/- what is asked of the dots that a join saw -/
def sawE (l : List Dt) : Int := if 40 < l.length then 4 else dotsE l
theorem sawE_zero {s : List Dt} (h1 : s.length ≤ 40) (h2 : dotsE s = 0) : sawE s = 0 := by unfold sawE; rw [if_neg (by omega), h2]
theorem new_cellD {w w2 : World} {x : Dt} {t : TypeId} (hb : Below (w.alloc (.cells #[.int .i64 x.1, .int .i64 x.2] t)).heap.size (w.alloc (.cells #[.int .i64 x.1, .int .i64 x.2] t)) w2) :
    w2.cell? ⟨w.heap.size, 0, none⟩ = some (.int .i64 x.1) ∧ w2.cell? ⟨w.heap.size, 1, none⟩ = some (.int .i64 x.2) := by
  have hlt : w.heap.size < (w.alloc (.cells #[.int .i64 x.1, .int .i64 x.2] t)).heap.size := by simp
  have h2 : (w.alloc (.cells #[.int .i64 x.1, .int .i64 x.2] t)).heap[w.heap.size]? = some (.cells #[.int .i64 x.1, .int .i64 x.2] t) := heap_alloc_new w _
  refine ⟨(hb.cell (p := ⟨w.heap.size, 0, none⟩) hlt).trans ?_, (hb.cell (p := ⟨w.heap.size, 1, none⟩) hlt).trans ?_⟩ <;> (simp only [World.cell?, h2]; rfl)

set_option maxRecDepth 100000 in
set_option maxHeartbeats 2000000 in
theorem checkSeen_any (v : Value) (l : List Dt) (w : World) (hA : DtsAt w v l) :
    Calls Tryd.prog 45 #[v] w fun e w' => e = .returned (errV (sawE l)) ∧ Below w.heap.size w w' := by
  obtain ⟨p, c, rfl, h, hc0, hcm, _⟩ := hA
  obtain ⟨n, hl⟩ : ∃ n, l.length = n := ⟨_, rfl⟩
  rw [hl] at hc0
  rw [hl]
  by_cases h40 : 40 < n
  · have HE : Hid (sawE l = 4) := by unfold Hid sawE; rw [hl, if_pos h40]
    have hz : (40 : Int) < n := by omega
    clear hl h hc0 hcm
    go_enter Tryd.func45, Tryd.ntmps45
    go_wp2
    go_ret
    exact ⟨by rw [HE.out]; rfl, Below.refl _ _⟩
  have HE : Hid (sawE l = dotsE l) := by unfold Hid sawE; rw [hl, if_neg h40]
  have hz : ¬ (40 : Int) < n := by omega
  clear hc0 hcm
  have HL : Hid (l.length = n) := hl
  have HI : Hid (DotsIn w p l) := h
  clear hl h
  go_enter Tryd.func45, Tryd.ntmps45
  go_wp2
  go_loopw [13] (fun i wr => ∃ (k : Nat), k ≤ n ∧ i = .int .i64 k ∧ Hid (∀ j, j < k → dotE (l.getD j noneD).1 (l.getD j noneD).2 = 0) ∧ Hid (Below w.heap.size w wr)) (fun i _ => n - (intOf i).toNat)
  case atStart => exact ⟨0, by omega, rfl, fun j hj => absurd hj (by omega), Below.refl _ _⟩
  case round =>
    obtain ⟨k, hk, rfl, HG, HB⟩ := hrel
    by_cases hlt : k < n
    · have hltz : (k : Int) < n := by omega
      obtain ⟨b, o, rfl, hc⟩ := HI.out.some (by intro e; have := HL.out; rw [e] at this; simp at this; omega)
      have hkl : k < l.length := by rw [HL.out]; exact hlt
      have ha := (hc k hkl).below HB.out (hc k hkl).lt
      obtain ⟨x, hx⟩ : ∃ x, x = l.getD k noneD := ⟨_, rfl⟩
      rw [← hx] at ha
      have HX : Hid (x = l.getD k noneD) := hx
      obtain ⟨x1, x2⟩ := x
      obtain ⟨a1, a2⟩ := ha
      simp only at a1 a2
      clear hc hx
      have C := dotCheck_any x1 x2 (wr.alloc (.cells #[.int .i64 x1, .int .i64 x2] 24))
      by_cases h0 : dotE x1 x2 = 0
      · rw [h0, errV_zero] at C
        have HG2 : Hid (∀ j, j < k + 1 → dotE (l.getD j noneD).1 (l.getD j noneD).2 = 0) := by
          intro j hj
          rcases Nat.lt_succ_iff_lt_or_eq.1 hj with h | rfl
          · exact HG.out j h
          · rw [← HX.out]; exact h0
        clear h0
        go_wp2_with fail
        refine C.mono ?_
        rintro e w2 ⟨rfl, hb2⟩
        have HB2 : Hid (Below w.heap.size w w2) := bel_new HB.out hb2
        clear hb2 C a1 a2
        go_wp2_with fail
        go_roundw
        case rel => exact ⟨k + 1, by omega, by go_num, HG2, HB2⟩
        case measure => simp [intOf]; omega
      · obtain ⟨q, hq⟩ : ∃ q, q = dotE x1 x2 := ⟨_, rfl⟩
        have HQ : Hid (errV (sawE l) = .iface 74 (.int .i64 q)) := by
          unfold Hid; rw [HE.out, dotsE_fault hkl HG.out (by rw [← HX.out]; exact h0), ← HX.out, hq, errV_ne h0]
        rw [errV_ne h0, ← hq] at C
        clear h0 hq
        go_wp2_with fail
        refine C.mono ?_
        rintro e w2 ⟨rfl, hb2⟩
        have HB2 : Hid (Below w.heap.size w w2) := bel_new HB.out hb2
        clear hb2 C
        go_wp2_with fail
        go_ret
        exact ⟨by rw [HQ.out]; rfl, HB2.out⟩
    · obtain rfl : k = n := by omega
      have HZ : Hid (∀ d ∈ l, dotE d.1 d.2 = 0) := all_zero (fun j hj => HG.out j (by rw [← HL.out]; exact hj))
      clear HG hlt
      go_wp2_with fail
      go_loopw [6] (fun i wr2 => ∃ (m : Nat), (m = 0 ∨ m + 1 ≤ k) ∧ i = .int .i64 ((m + 1 : Nat) : Int) ∧ Hid (∀ j, j < m → dlt (l.getD j noneD) (l.getD (j + 1) noneD) = true) ∧ Hid (Below w.heap.size w wr2)) (fun i _ => k + 1 - (intOf i).toNat)
      case atStart => exact ⟨0, Or.inl rfl, rfl, fun j hj => absurd hj (by omega), HB⟩
      case round =>
        clear HB
        obtain ⟨m, hm, rfl, HG, HB⟩ := hrel
        by_cases hlt : m + 1 < k
        · obtain ⟨j, hj⟩ : ∃ j : Nat, j = m + 1 := ⟨_, rfl⟩
          have hltz : (j : Int) < k := by omega
          obtain ⟨b, o, rfl, hc⟩ := HI.out.some (by intro e; have := HL.out; rw [e] at this; simp at this; omega)
          have hkl : m + 1 < l.length := by rw [HL.out]; exact hlt
          have ha := (hc (m + 1) hkl).below HB.out (hc (m + 1) hkl).lt
          have hb := (hc m (by omega)).below HB.out (hc m (by omega)).lt
          obtain ⟨x, hx⟩ : ∃ x, x = l.getD (m + 1) noneD := ⟨_, rfl⟩
          obtain ⟨y, hy⟩ : ∃ y, y = l.getD m noneD := ⟨_, rfl⟩
          rw [← hx, ← hj] at ha
          rw [← hy] at hb
          have HX : Hid (x = l.getD (m + 1) noneD) := hx
          have HY : Hid (y = l.getD m noneD) := hy
          obtain ⟨x1, x2⟩ := x
          obtain ⟨y1, y2⟩ := y
          obtain ⟨a1, a2⟩ := ha
          obtain ⟨c1, c2⟩ := hb
          simp only at a1 a2 c1 c2
          have HQL : Hid (dcmp (y1, y2) (x1, x2) < 0 ↔ dlt (y1, y2) (x1, x2) = true) := dcmp_lt
          obtain ⟨q, hq⟩ : ∃ q, q = dcmp (y1, y2) (x1, x2) := ⟨_, rfl⟩
          have C2 := fun W => compareDots_any y1 y2 x1 x2 W
          rw [← hq] at C2 HQL
          have hjm : IntKind.i64.wrap ((j : Int) - 1) = (m : Int) := by rw [show (j : Int) - 1 = (m : Int) by omega]; exact wrap_in (by omega) (by omega)
          have hmz : (m : Int) < k := by omega
          have HJ : Hid (j = m + 1) := hj
          rw [← hj]
          clear hc hx hy hq
          by_cases hq0 : 0 ≤ q
          · have HQ : Hid (errV (sawE l) = .iface 74 (.int .i64 7)) := by
              have h9 : dlt (y1, y2) (x1, x2) = false := by
                cases h8 : dlt (y1, y2) (x1, x2)
                · rfl
                · exact absurd (HQL.out.2 h8) (by omega)
              unfold Hid; rw [HE.out, dotsE_seven HZ.out hkl (by rw [← HX.out, ← HY.out]; exact h9)]; rfl
            clear hj HQL
            go_wp2_with fail
            go_region_held3 (fun W => W.cell? ⟨b, o + m * 2, none⟩ = some (.int .i64 y1) ∧ W.cell? ⟨b, o + m * 2 + 1, none⟩ = some (.int .i64 y2) ∧ W.cell? ⟨b, o + j * 2, none⟩ = some (.int .i64 x1) ∧ W.cell? ⟨b, o + j * 2 + 1, none⟩ = some (.int .i64 x2)) (first | (go_keep; done) | (refine ⟨keep_cell hb7 ?_, keep_cell hb7 ?_, keep_cell hb7 ?_, keep_cell hb7 ?_⟩ <;> (go_split_ands; assumption))) (first
              | (go_at_call 67; refine (C2 _).mono ?_; rintro e w7 ⟨rfl, hb7⟩; have HB7 : Hid (Below w.heap.size w w7) := bel HB.out.drew hb7))
            all_goals
              go_wp2_with fail
              go_ret
              exact ⟨by rw [HQ.out]; rfl, HB7.out⟩
          · have h9 : dlt (y1, y2) (x1, x2) = true := HQL.out.1 (by omega)
            have HG2 : Hid (∀ i, i < m + 1 → dlt (l.getD i noneD) (l.getD (i + 1) noneD) = true) := by
              intro i hi
              rcases Nat.lt_succ_iff_lt_or_eq.1 hi with h | rfl
              · exact HG.out i h
              · rw [← HX.out, ← HY.out]; exact h9
            clear h9 hj HQL
            go_wp2_with fail
            go_region_held3 (fun W => W.cell? ⟨b, o + m * 2, none⟩ = some (.int .i64 y1) ∧ W.cell? ⟨b, o + m * 2 + 1, none⟩ = some (.int .i64 y2) ∧ W.cell? ⟨b, o + j * 2, none⟩ = some (.int .i64 x1) ∧ W.cell? ⟨b, o + j * 2 + 1, none⟩ = some (.int .i64 x2)) (first | (go_keep; done) | (refine ⟨keep_cell hb7 ?_, keep_cell hb7 ?_, keep_cell hb7 ?_, keep_cell hb7 ?_⟩ <;> (go_split_ands; assumption))) (first
              | (go_at_call 67; refine (C2 _).mono ?_; rintro e w7 ⟨rfl, hb7⟩; have HB7 : Hid (Below w.heap.size w w7) := bel HB.out.drew hb7))
            all_goals
              go_wp2_with fail
              go_roundw
              case rel => exact ⟨m + 1, Or.inr (by omega), by rw [HJ.out]; go_num, HG2, HB7⟩
              case measure => have := HJ.out; simp [intOf]; omega
        · have HQ : Hid (errV (sawE l) = .nilIface) := by
            unfold Hid; rw [HE.out, dotsE_ok HZ.out (fun i hi => HG.out i (by rw [HL.out] at hi; omega))]; exact errV_zero
          obtain ⟨j, hj⟩ : ∃ j : Nat, j = m + 1 := ⟨_, rfl⟩
          have hltz : ¬ (j : Int) < k := by omega
          rw [← hj]
          clear hj hm
          go_wp2_with fail
          go_ret
          exact ⟨by rw [HQ.out]; rfl, HB.out⟩

end Nj
end Go.Proofs.YtcmoajlcmeimiaaDoor
