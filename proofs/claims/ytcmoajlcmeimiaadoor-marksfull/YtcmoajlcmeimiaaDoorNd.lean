/- What dot.Check, checkMark, Check and checkWith of package marks answer. -/
import Derived.Test.YtcmoajlcmeimiaaDoorNc
import Derived.Deep.QuietTactic
import Derived.BigQuiet
namespace Go.Proofs.YtcmoajlcmeimiaaDoor
namespace Nd
set_option linter.unusedVariables false
open Go.ChangeShapes Go.WideShapes Go.ChangeAt Go.RowKit Cm Ka Kb Na Nb Nc
open La (bel bel_drew errV_zero errV_ne own_ge own_grow own_below)

theorem dotCheck_any (who m : Int) (w : World) :
    Calls Tryd.prog 50 #[.agg #[.int .i64 who, .int .i64 m]] w fun e w' => e = .returned (errV (dotE who m)) ∧ Below w.heap.size w w' := by
  go_enter Tryd.func50, Tryd.ntmps50
  go_wp2
  all_goals
    go_ret
    refine ⟨?_, (Below.refl _ w).alloc (Nat.le_refl _) _⟩
    unfold dotE
    first
      | (rw [if_pos (by omega)]; rfl)
      | (rw [if_neg (by omega)]; rfl)

theorem checkMark_any (s : ByteArray) (a b : Int) (w : World) (hs : s.size ≤ maxLen) :
    Calls Tryd.prog 35 #[.agg #[.string s, .int .i64 a, .int .i64 b]] w fun e w' => e = .returned (errV (markE (s, (a, b)))) ∧ Below w.heap.size w w' := by
  have C := fun W => check_any s W hs
  have HB : Hid (∀ O1, Below w.heap.size w (w.alloc O1)) := fun O1 => (Below.refl _ w).alloc (Nat.le_refl _) _
  by_cases h : Pm.chk s.toList = 0
  · rw [h, errV_zero] at C
    have HM : Hid (markE (s, (a, b)) = dotE a b) := by unfold Hid markE; rw [if_neg (by simpa using h)]
    rw [HM.out]
    obtain ⟨z, hz⟩ : ∃ z, z = errV (dotE a b) := ⟨_, rfl⟩
    have C2 := fun W => dotCheck_any a b W
    rw [← hz] at C2 ⊢
    clear HM hz h
    go_enter Tryd.func35, Tryd.ntmps35
    go_wp2_with fail
    refine (C _).mono ?_
    rintro e w2 ⟨rfl, hw⟩
    have hw2 := hw.symm; subst hw2; clear hw C
    go_wp2_with fail
    refine (C2 _).mono ?_
    rintro e w3 ⟨rfl, hb3⟩
    have HB3 : Hid (Below w.heap.size w w3) := bel (HB.out _) hb3
    clear hb3 C2
    go_wp2_with fail
    go_ret
    exact ⟨rfl, HB3.out⟩
  · have HM : Hid (markE (s, (a, b)) = Pm.chk s.toList) := by unfold Hid markE; rw [if_pos h]
    rw [HM.out]
    obtain ⟨k, hk⟩ : ∃ k, k = Pm.chk s.toList := ⟨_, rfl⟩
    have HV : Hid (errV (Pm.chk s.toList) = .iface 74 (.int .i64 k)) := by rw [hk]; exact errV_ne h
    rw [HV.out] at C ⊢
    clear HM hk h HV
    go_enter Tryd.func35, Tryd.ntmps35
    go_wp2_with fail
    refine (C _).mono ?_
    rintro e w2 ⟨rfl, hw⟩
    have hw2 := hw.symm; subst hw2; clear hw C
    go_wp2_with fail
    go_ret
    exact ⟨rfl, HB.out _⟩

/- the cells of a mark of the call's own -/
theorem new_cell {w w2 : World} {x : Mk} {t : TypeId} (hb : Below (w.alloc (.cells #[.string x.1, .int .i64 x.2.1, .int .i64 x.2.2] t)).heap.size (w.alloc (.cells #[.string x.1, .int .i64 x.2.1, .int .i64 x.2.2] t)) w2) :
    w2.cell? ⟨w.heap.size, 0, none⟩ = some (.string x.1) ∧ w2.cell? ⟨w.heap.size, 1, none⟩ = some (.int .i64 x.2.1) ∧ w2.cell? ⟨w.heap.size, 2, none⟩ = some (.int .i64 x.2.2) := by
  have hlt : w.heap.size < (w.alloc (.cells #[.string x.1, .int .i64 x.2.1, .int .i64 x.2.2] t)).heap.size := by simp
  have h2 : (w.alloc (.cells #[.string x.1, .int .i64 x.2.1, .int .i64 x.2.2] t)).heap[w.heap.size]? = some (.cells #[.string x.1, .int .i64 x.2.1, .int .i64 x.2.2] t) := heap_alloc_new w _
  refine ⟨(hb.cell (p := ⟨w.heap.size, 0, none⟩) hlt).trans ?_, (hb.cell (p := ⟨w.heap.size, 1, none⟩) hlt).trans ?_, (hb.cell (p := ⟨w.heap.size, 2, none⟩) hlt).trans ?_⟩ <;> (simp only [World.cell?, h2]; rfl)
theorem bel_new {w wr w2 : World} {o : Obj} (h : Below w.heap.size w wr) (hb : Below (wr.alloc o).heap.size (wr.alloc o) w2) : Below w.heap.size w w2 := bel (h.alloc h.size o) hb

def prvM (l : List Mk) (k : Nat) : Option Mk := if k = 0 then none else some (l.getD (k - 1) none1)
def okM (a : Option Mk) (x : Mk) : Bool := match a with | none => true | some y => mlt y x
theorem wrap_in {x : Int} (h1 : -1000000 ≤ x) (h2 : x ≤ 1000000) : IntKind.i64.wrap x = x := by
  rw [IntKind.wrap_i64]; omega
theorem goes_step {l : List Mk} {k : Nat} {x : Mk} (hk : k < l.length) (hx : x = l.getD k none1) :
    goesM (prvM l k) (l.drop k) = if markE x ≠ 0 then markE x else if okM (prvM l k) x = false then 7 else goesM (prvM l (k + 1)) (l.drop (k + 1)) := by
  rw [dropM_at hk, ← hx]
  have e : prvM l (k + 1) = some x := by unfold prvM; rw [if_neg (by omega), Nat.add_sub_cancel, ← hx]
  rw [e]; rfl

set_option maxRecDepth 100000 in
set_option maxHeartbeats 2000000 in
theorem rising_any (p : Option Addr) (n c : Nat) (l : List Mk) (w : World) (hl : l.length = n) (h : MarksIn w p l) (hs : ∀ x ∈ l, x.1.size ≤ maxLen) (hn : n ≤ maxLen) :
    Calls Tryd.prog 8 #[.slice p n c] w fun e w' => e = .returned (errV (marksE l)) ∧ Below w.heap.size w w' := by
  unfold maxLen at hn
  by_cases h40 : 40 < n
  · have HE : Hid (marksE l = 4) := by unfold Hid marksE; rw [hl, if_pos h40]
    have hz : (40 : Int) < n := by omega
    clear hl h hs
    go_enter Tryd.func8, Tryd.ntmps8
    go_wp2
    go_ret
    exact ⟨by rw [HE.out]; rfl, Below.refl _ _⟩
  · have HE : Hid (marksE l = goesM none l) := by unfold Hid marksE; rw [hl, if_neg h40]
    have hz : ¬ (40 : Int) < n := by omega
    have HL : Hid (l.length = n) := hl
    have HI : Hid (MarksIn w p l) := h
    have HS : Hid (∀ x ∈ l, x.1.size ≤ maxLen) := hs
    clear hl h hs
    go_enter Tryd.func8, Tryd.ntmps8
    go_wp2
    go_loopw [12] (fun i wr => ∃ (k : Nat), k ≤ n ∧ i = .int .i64 k ∧ Hid (goesM (prvM l k) (l.drop k) = goesM none l) ∧ Hid (Below w.heap.size w wr)) (fun i _ => n - (intOf i).toNat)
    case atStart => exact ⟨0, by omega, rfl, rfl, Below.refl _ _⟩
    case round =>
      obtain ⟨k, hk, rfl, HG, HB⟩ := hrel
      by_cases hlt : k < n
      · have hltz : (k : Int) < n := by omega
        obtain ⟨b, o, rfl, hc⟩ := HI.out.some (by intro e; have := HL.out; rw [e] at this; simp at this; omega)
        have hkl : k < l.length := by rw [HL.out]; exact hlt
        have ha := (hc k hkl).below HB.out (hc k hkl).lt
        have HP : Hid (∀ j, j + 1 = k → MAt wr b o j (l.getD j none1)) := fun j hj => (hc j (by omega)).below HB.out (hc j (by omega)).lt
        obtain ⟨x, hx⟩ : ∃ x, x = l.getD k none1 := ⟨_, rfl⟩
        have hss : x.1.size ≤ maxLen := by rw [hx]; exact HS.out _ (getM_mem hkl)
        rw [← hx] at ha
        have HD := goes_step hkl hx
        obtain ⟨sx, x1, x2⟩ := x
        obtain ⟨a1, a2, a3⟩ := ha
        simp only at a1 a2 a3 hss
        clear hc hx
        have C := checkMark_any sx x1 x2 (wr.alloc (.cells #[.string sx, .int .i64 x1, .int .i64 x2] 26)) hss
        by_cases h0 : markE (sx, (x1, x2)) = 0
        · rw [h0, errV_zero] at C
          rw [if_neg (by simpa using h0)] at HD
          clear h0 hss
          by_cases hk0 : k = 0
          · subst hk0
            have HG2 : Hid (goesM (prvM l (0 + 1)) (l.drop (0 + 1)) = goesM none l) := by
              unfold Hid; rw [← HG.out, HD]; rfl
            clear HD HP
            simp only [Nat.zero_mul, Nat.add_zero] at a1 a2 a3
            go_wp2_with fail
            refine C.mono ?_
            rintro e w2 ⟨rfl, hb2⟩
            have HB2 : Hid (Below w.heap.size w w2) := bel_new HB.out hb2
            clear hb2 C a1 a2 a3
            go_wp2_with fail
            go_quiet (fail)
            go_wp2_with fail
            go_roundw
            case rel => exact ⟨0 + 1, by omega, by go_num, HG2, bel_drew HB2.out _⟩
            case measure => simp [intOf]; omega
          · obtain ⟨m, hm⟩ : ∃ m, m + 1 = k := ⟨k - 1, by omega⟩
            have hpm := HP.out m hm
            have HPV : Hid (prvM l k = some (l.getD m none1)) := by unfold Hid prvM; rw [if_neg hk0, show k - 1 = m by omega]
            rw [HG.out, HPV.out] at HD
            obtain ⟨y, hy⟩ : ∃ y, y = l.getD m none1 := ⟨_, rfl⟩
            rw [← hy] at HD hpm
            obtain ⟨sy, y1, y2⟩ := y
            obtain ⟨c1, c2, c3⟩ := hpm
            simp only at c1 c2 c3 HD
            have HQL : Hid (mcmp (sy, (y1, y2)) (sx, (x1, x2)) < 0 ↔ mlt (sy, (y1, y2)) (sx, (x1, x2)) = true) := mcmp_lt
            obtain ⟨q, hq⟩ : ∃ q, q = mcmp (sy, (y1, y2)) (sx, (x1, x2)) := ⟨_, rfl⟩
            have C2 := fun W => compareMarks_any sy y1 y2 sx x1 x2 W
            rw [← hq] at C2 HQL
            have hk0z : (0 : Int) < k := by omega
            have hk0n : 0 < k := by omega
            have hkm : IntKind.i64.wrap ((k : Int) - 1) = (m : Int) := by rw [show (k : Int) - 1 = (m : Int) by omega]; exact wrap_in (by omega) (by omega)
            have hmz : (m : Int) < n := by omega
            have HLT : Hid (b < wr.heap.size) := World.block_lt_of_cell? _ ⟨b, o + k * 3, none⟩ a1
            clear hq hy HPV HP hk0
            by_cases hq0 : 0 ≤ q
            · have HQ : Hid (errV (marksE l) = .iface 74 (.int .i64 7)) := by
                have h9 : mlt (sy, (y1, y2)) (sx, (x1, x2)) = false := by
                  cases h8 : mlt (sy, (y1, y2)) (sx, (x1, x2))
                  · rfl
                  · exact absurd (HQL.out.2 h8) (by omega)
                unfold Hid; rw [HE.out, HD, show okM (some (sy, (y1, y2))) (sx, (x1, x2)) = false from h9, if_pos rfl]; rfl
              clear HQL HD
              go_wp2_with fail
              refine C.mono ?_
              rintro e w2 ⟨rfl, hb2⟩
              have HB2 : Hid (Below w.heap.size w w2) := bel_new HB.out hb2
              obtain ⟨d0, d1, d2⟩ := new_cell (x := (sx, (x1, x2))) hb2
              simp only at d0 d1 d2
              have HW : Hid (Below wr.heap.size wr w2) := bel_new (Below.refl _ _) hb2
              have f1 := (HW.out.cell (p := ⟨b, o + m * 3, none⟩) HLT.out).trans c1
              have f2 := (HW.out.cell (p := ⟨b, o + m * 3 + 1, none⟩) HLT.out).trans c2
              have f3 := (HW.out.cell (p := ⟨b, o + m * 3 + 2, none⟩) HLT.out).trans c3
              clear hb2 C a1 a2 a3 c1 c2 c3
              go_wp2_with fail
              go_region_held3 (fun W => W.cell? ⟨b, o + m * 3, none⟩ = some (.string sy) ∧ W.cell? ⟨b, o + m * 3 + 1, none⟩ = some (.int .i64 y1) ∧ W.cell? ⟨b, o + m * 3 + 2, none⟩ = some (.int .i64 y2) ∧ W.cell? ⟨wr.heap.size, 0, none⟩ = some (.string sx) ∧ W.cell? ⟨wr.heap.size, 1, none⟩ = some (.int .i64 x1) ∧ W.cell? ⟨wr.heap.size, 2, none⟩ = some (.int .i64 x2)) (first | (go_keep; done) | (refine ⟨keep_cell hb7 ?_, keep_cell hb7 ?_, keep_cell hb7 ?_, keep_cell hb7 ?_, keep_cell hb7 ?_, keep_cell hb7 ?_⟩ <;> (go_split_ands; assumption))) (first
                | (go_at_call 36; refine (C2 _).mono ?_; rintro e w7 ⟨rfl, hb7⟩; have HB7 : Hid (Below w.heap.size w w7) := bel HB2.out.drew hb7))
              all_goals
                go_wp2_with fail
                go_ret
                exact ⟨by rw [HQ.out]; rfl, HB7.out⟩
            · have HG2 : Hid (goesM (prvM l (k + 1)) (l.drop (k + 1)) = goesM none l) := by
                have h9 : mlt (sy, (y1, y2)) (sx, (x1, x2)) = true := HQL.out.1 (by omega)
                unfold Hid; rw [HD, show okM (some (sy, (y1, y2))) (sx, (x1, x2)) = true from h9, if_neg (by decide)]
              clear HQL HD
              go_wp2_with fail
              refine C.mono ?_
              rintro e w2 ⟨rfl, hb2⟩
              have HB2 : Hid (Below w.heap.size w w2) := bel_new HB.out hb2
              obtain ⟨d0, d1, d2⟩ := new_cell (x := (sx, (x1, x2))) hb2
              simp only at d0 d1 d2
              have HW : Hid (Below wr.heap.size wr w2) := bel_new (Below.refl _ _) hb2
              have f1 := (HW.out.cell (p := ⟨b, o + m * 3, none⟩) HLT.out).trans c1
              have f2 := (HW.out.cell (p := ⟨b, o + m * 3 + 1, none⟩) HLT.out).trans c2
              have f3 := (HW.out.cell (p := ⟨b, o + m * 3 + 2, none⟩) HLT.out).trans c3
              clear hb2 C a1 a2 a3 c1 c2 c3
              go_wp2_with fail
              go_region_held3 (fun W => W.cell? ⟨b, o + m * 3, none⟩ = some (.string sy) ∧ W.cell? ⟨b, o + m * 3 + 1, none⟩ = some (.int .i64 y1) ∧ W.cell? ⟨b, o + m * 3 + 2, none⟩ = some (.int .i64 y2) ∧ W.cell? ⟨wr.heap.size, 0, none⟩ = some (.string sx) ∧ W.cell? ⟨wr.heap.size, 1, none⟩ = some (.int .i64 x1) ∧ W.cell? ⟨wr.heap.size, 2, none⟩ = some (.int .i64 x2)) (first | (go_keep; done) | (refine ⟨keep_cell hb7 ?_, keep_cell hb7 ?_, keep_cell hb7 ?_, keep_cell hb7 ?_, keep_cell hb7 ?_, keep_cell hb7 ?_⟩ <;> (go_split_ands; assumption))) (first
                | (go_at_call 36; refine (C2 _).mono ?_; rintro e w7 ⟨rfl, hb7⟩; have HB7 : Hid (Below w.heap.size w w7) := bel HB2.out.drew hb7))
              all_goals
                go_wp2_with fail
                go_roundw
                case rel => exact ⟨k + 1, by omega, by go_num, HG2, HB7⟩
                case measure => simp [intOf]; omega
        · obtain ⟨q, hq⟩ : ∃ q, q = markE (sx, (x1, x2)) := ⟨_, rfl⟩
          have HQ : Hid (errV (marksE l) = .iface 74 (.int .i64 q)) := by
            unfold Hid; rw [HE.out, ← HG.out, HD, if_pos h0, hq, errV_ne h0]
          rw [errV_ne h0, ← hq] at C
          clear HD h0 hss hq HP
          go_wp2_with fail
          refine C.mono ?_
          rintro e w2 ⟨rfl, hb2⟩
          have HB2 : Hid (Below w.heap.size w w2) := bel_new HB.out hb2
          clear hb2 C
          go_wp2_with fail
          go_ret
          exact ⟨by rw [HQ.out]; rfl, HB2.out⟩
      · obtain rfl : k = n := by omega
        have HZ : Hid (goesM none l = 0) := by
          unfold Hid; rw [← HG.out, List.drop_of_length_le (by rw [HL.out]; exact Nat.le_refl _)]; rfl
        go_wp2_with fail
        go_ret
        exact ⟨by rw [HE.out, HZ.out]; rfl, HB.out⟩

end Nd
end Go.Proofs.YtcmoajlcmeimiaaDoor
