/- When two rows of marks are the same, and whether a dot is in a list. -/
import Derived.Test.YtcmoajlcmeimiaaDoorNk
import Derived.Laws.StructEq
namespace Go.Proofs.YtcmoajlcmeimiaaDoor
namespace Np
set_option linter.unusedVariables false
open Go.ChangeShapes Go.WideShapes Go.ChangeAt Go.RowKit Cm Ka Kb Na Nb Nc Nd Nj Nk
open La (bel bel_drew errV_zero errV_ne own_ge own_grow own_below)

theorem mark_eqs (s t : ByteArray) (n m a b : Int) (w : World) : (Op.equalIn 10000 26 (.agg #[.string s, .int .i64 n, .int .i64 a]) (.agg #[.string t, .int .i64 m, .int .i64 b])).run Tryd.prog w = .ok (decide (((s, (n, a)) : Mk) = (t, (m, b)))) w := by
  have u3 := Tryd.underlying3
  have a3 := Tryd.isAgg3
  have z3 := Tryd.sizeOf3
  have u9 := Tryd.underlying9
  have a9 := Tryd.isAgg9
  have z9 := Tryd.sizeOf9
  have a4 := Tryd.isAgg24
  have z4 := Tryd.sizeOf24
  have hS : Tryd.prog.underlying 26 = some (.struct (Tryd.prog.fieldsOf 26)) := by kernel_rfl
  have hp : Tryd.prog.stoodInHeld 26 = false := by kernel_rfl
  have hp2 : Tryd.prog.stoodInHeld 24 = false := by kernel_rfl
  rw [show (10000 : Nat) = 9999 + 1 from rfl, run_equalIn_agg w 9999 26 _ _ hS hp]
  simp only [Program.fieldsOf, Tryd.underlying26]
  rw [mark_same]
  clear hS
  go_simp
  by_cases h1 : s.toList = t.toList <;> by_cases h2 : n = m <;> by_cases h3 : a = b <;> simp [h1, h2, h3]
theorem neq_mark (s t : ByteArray) (n m a b : Int) (w : World) : (binOp .neq 26 (.agg #[.string s, .int .i64 n, .int .i64 a]) (.agg #[.string t, .int .i64 m, .int .i64 b])).run Tryd.prog w = .ok (.bool (!decide (((s, (n, a)) : Mk) = (t, (m, b))))) w := by
  rw [run_neq_struct, mark_eqs]; rfl
theorem eql_mark (s t : ByteArray) (n m a b : Int) (w : World) : (binOp .eql 26 (.agg #[.string s, .int .i64 n, .int .i64 a]) (.agg #[.string t, .int .i64 m, .int .i64 b])).run Tryd.prog w = .ok (.bool (decide (((s, (n, a)) : Mk) = (t, (m, b))))) w := by
  rw [run_eql_struct, mark_eqs]; rfl

set_option maxHeartbeats 1000000 in
theorem marks_any (v u : Value) (a b : List Mk) (w : World) (h1 : MksAt w v a) (h2 : MksAt w u b) (hn : a.length ≤ 1048576) :
    Calls Tryd.prog 12 #[v, u] w fun e w' => e = .returned (.bool (decide (a = b))) ∧ Below w.heap.size w w' := by
  obtain ⟨p, c, rfl, hlf, _⟩ := h1
  obtain ⟨q, d, rfl, hlg, _⟩ := h2
  obtain ⟨n, ha⟩ : ∃ n, a.length = n := ⟨_, rfl⟩
  obtain ⟨m, hb⟩ : ∃ m, b.length = m := ⟨_, rfl⟩
  rw [ha, hb]
  rw [ha] at hn
  by_cases hnm : n = m
  · subst hnm
    have HA : Hid (a.length = n) := ha
    have HB : Hid (b.length = n) := hb
    have HF : Hid (MarksIn w p a) := hlf
    have HG : Hid (MarksIn w q b) := hlg
    clear ha hb hlf hlg
    go_enter Tryd.func12, Tryd.ntmps12
    go_wp2
    go_loopw [5] (fun i wr => ∃ k : Nat, k ≤ n ∧ i = .int .i64 k ∧ Hid (∀ j, j < k → a.getD j none1 = b.getD j none1) ∧ Hid (Below w.heap.size w wr)) (fun i _ => n - (intOf i).toNat)
    case atStart => exact ⟨0, by omega, rfl, fun j hj => absurd hj (by omega), Below.refl _ _⟩
    case round =>
      obtain ⟨k, hk, rfl, HK, HBE⟩ := hrel
      by_cases hlt : k < n
      · have hltz : (k : Int) < n := by omega
        obtain ⟨b1, o1, rfl, c1⟩ := HF.out.some (by intro e; have := HA.out; rw [e] at this; simp at this; omega)
        obtain ⟨b2, o2, rfl, c2⟩ := HG.out.some (by intro e; have := HB.out; rw [e] at this; simp at this; omega)
        have e1 := (c1 k (by rw [HA.out]; exact hlt)).below HBE.out (c1 k (by rw [HA.out]; exact hlt)).lt
        have e2 := (c2 k (by rw [HB.out]; exact hlt)).below HBE.out (c2 k (by rw [HB.out]; exact hlt)).lt
        obtain ⟨x, hx⟩ : ∃ x, x = a.getD k none1 := ⟨_, rfl⟩
        obtain ⟨y, hy⟩ : ∃ y, y = b.getD k none1 := ⟨_, rfl⟩
        rw [← hx] at e1
        rw [← hy] at e2
        have HX : Hid (x = a.getD k none1) := hx
        have HY : Hid (y = b.getD k none1) := hy
        clear hx hy c1 c2
        obtain ⟨sx, nx, bx⟩ := x
        obtain ⟨sy, ny, by'⟩ := y
        obtain ⟨x1, x2, x3⟩ := e1
        obtain ⟨y1, y2, y3⟩ := e2
        simp only at x1 x2 x3 y1 y2 y3
        have hq : ∀ w, (binOp .neq 26 (.agg #[.string sx, .int .i64 nx, .int .i64 bx]) (.agg #[.string sy, .int .i64 ny, .int .i64 by'])).run Tryd.prog w = .ok (.bool (!decide (((sx, (nx, bx)) : Mk) = (sy, (ny, by'))))) w := fun w => neq_mark sx sy nx ny bx by' w
        have hg : Tryd.prog.eqGuardType Tryd.prog.depth 26 = false := by kernel_rfl
        by_cases hxy : ((sx, (nx, bx)) : Mk) = (sy, (ny, by'))
        · rw [decide_eq_true hxy] at hq
          have HXY : Hid (((sx, (nx, bx)) : Mk) = (sy, (ny, by'))) := hxy
          clear hxy
          go_wp2
          go_quiet (fail)
          go_wp2
          go_roundw
          case rel => exact ⟨k + 1, by omega, by go_num, fun j hj => by
            rcases Nat.lt_succ_iff_lt_or_eq.1 hj with h | rfl
            · exact HK.out j h
            · rw [← HX.out, ← HY.out]; exact HXY.out, bel_drew HBE.out _⟩
          case measure => simp [intOf]; omega
        · rw [decide_eq_false hxy] at hq
          have HNE : Hid (decide (a = b) = false) := by
            rw [Hid, decide_eq_false_iff_not]; intro e
            apply hxy; rw [HX.out, HY.out, e]
          clear hxy
          go_wp2
          go_quiet (fail)
          go_wp2
          go_ret
          exact ⟨by rw [HNE.out]; rfl, bel_drew HBE.out _⟩
      · obtain rfl : k = n := by omega
        have HEQ : Hid (decide (a = b) = true) := by
          rw [Hid, decide_eq_true_eq]
          apply List.ext_getElem?
          intro i
          by_cases hi : i < k
          · have := HK.out i hi
            rw [List.getD_eq_getElem?_getD, List.getD_eq_getElem?_getD, List.getElem?_eq_getElem (by rw [HA.out]; exact hi), List.getElem?_eq_getElem (by rw [HB.out]; exact hi)] at this
            rw [List.getElem?_eq_getElem (by rw [HA.out]; exact hi), List.getElem?_eq_getElem (by rw [HB.out]; exact hi)]
            simpa using this
          · rw [List.getElem?_eq_none (by rw [HA.out]; omega), List.getElem?_eq_none (by rw [HB.out]; omega)]
        go_wp2
        go_ret
        exact ⟨by rw [HEQ.out]; rfl, HBE.out⟩
  · have hnm' : ((n : Int) == (m : Int)) = false := by simp; omega
    have HE : Hid (decide (a = b) = false) := by
      rw [Hid, decide_eq_false_iff_not]; rintro rfl; omega
    clear ha hb hlf hlg
    go_enter Tryd.func12, Tryd.ntmps12
    go_wp2
    go_ret
    exact ⟨by rw [HE.out]; rfl, Below.refl _ _⟩


/- the reference: is a dot in a list? -/
set_option maxHeartbeats 1000000 in
theorem in_any (v : Value) (l : List Dt) (p1 p2 : Int) (w : World) (h : DtsAt w v l) (hn : l.length ≤ 1048576) :
    Calls Tryd.prog 44 #[v, .agg #[.int .i64 p1, .int .i64 p2]] w fun e w' => e = .returned (.bool (decide ((p1, p2) ∈ l))) ∧ Below w.heap.size w w' := by
  obtain ⟨q, c, rfl, hdi, _⟩ := h
  obtain ⟨n, hnn⟩ : ∃ n, l.length = n := ⟨_, rfl⟩
  rw [hnn] at hn
  rw [hnn]
  have HL : Hid (l.length = n) := hnn
  have HI : Hid (DotsIn w q l) := hdi
  have HB0 : Hid (Below w.heap.size w (w.alloc (.cells #[.int .i64 p1, .int .i64 p2] 24))) := (Below.refl _ w).alloc (Nat.le_refl _) _
  have HX1 : Hid ((w.alloc (.cells #[.int .i64 p1, .int .i64 p2] 24)).cell? ⟨w.heap.size, 0, none⟩ = some (.int .i64 p1) ∧ (w.alloc (.cells #[.int .i64 p1, .int .i64 p2] 24)).cell? ⟨w.heap.size, 1, none⟩ = some (.int .i64 p2)) := new_cellD (x := (p1, p2)) (Below.refl _ _)
  clear hnn hdi
  go_enter Tryd.func44, Tryd.ntmps44
  go_wp2
  go_loopw [5] (fun vi wr => ∃ (k : Nat), k ≤ n ∧ vi = .int .i64 k ∧ Hid (∀ j, j < k → l.getD j noneD ≠ (p1, p2)) ∧ Hid (Below w.heap.size w wr) ∧ Hid (wr.cell? ⟨w.heap.size, 0, none⟩ = some (.int .i64 p1) ∧ wr.cell? ⟨w.heap.size, 1, none⟩ = some (.int .i64 p2))) (fun vi _ => n - (intOf vi).toNat)
  case atStart => exact ⟨0, by omega, rfl, fun j hj => absurd hj (by omega), HB0, HX1⟩
  case round =>
    obtain ⟨k, hk, rfl, H1, HB, HX0⟩ := hrel
    by_cases hlt : k < n
    · have hltz : (k : Int) < n := by omega
      obtain ⟨b, o, rfl, hc⟩ := HI.out.some (by intro e; have := HL.out; rw [e] at this; simp at this; omega)
      have hkl : k < l.length := by rw [HL.out]; exact hlt
      have ha := (hc k hkl).below HB.out (hc k hkl).lt
      obtain ⟨x, hx⟩ : ∃ x, x = l.getD k noneD := ⟨_, rfl⟩
      rw [← hx] at ha
      have HX : Hid (x = l.getD k noneD) := hx
      obtain ⟨x1, x2⟩ := x
      obtain ⟨a1, a2⟩ := ha
      simp only at a1 a2
      obtain ⟨d0, d1⟩ := HX0.out
      have hq : ∀ w, (binOp .eql 24 (.agg #[.int .i64 x1, .int .i64 x2]) (.agg #[.int .i64 p1, .int .i64 p2])).run Tryd.prog w = .ok (.bool (decide (((x1, x2) : Dt) = (p1, p2)))) w := fun w => eql_dot x1 p1 x2 p2 w
      have hg : Tryd.prog.eqGuardType Tryd.prog.depth 24 = false := by kernel_rfl
      clear hc hx
      by_cases hxy : ((x1, x2) : Dt) = (p1, p2)
      · rw [decide_eq_true hxy] at hq
        have HM : Hid (decide ((p1, p2) ∈ l) = true) := by
          rw [Hid, decide_eq_true_eq, ← hxy, HX.out]; exact getD_mem hkl
        clear hxy
        go_wp2
        go_quiet (fail)
        go_wp2
        go_ret
        exact ⟨by rw [HM.out]; rfl, bel_drew HB.out _⟩
      · rw [decide_eq_false hxy] at hq
        have H3 : Hid (∀ j, j < k + 1 → l.getD j noneD ≠ (p1, p2)) := by
          intro j hj
          rcases Nat.lt_succ_iff_lt_or_eq.1 hj with h | rfl
          · exact H1.out j h
          · rw [← HX.out]; exact fun e => hxy e
        clear hxy
        go_wp2
        go_quiet (fail)
        go_wp2
        go_roundw
        case rel => exact ⟨k + 1, by omega, by go_num, H3, bel_drew HB.out _, HX0.out⟩
        case measure => simp [intOf]; omega
    · obtain rfl : k = n := by omega
      have HM : Hid (decide ((p1, p2) ∈ l) = false) := by
        rw [Hid, decide_eq_false_iff_not]
        intro h
        obtain ⟨j, hj, e⟩ := List.mem_iff_getElem.1 h
        have := H1.out j (by rw [← HL.out]; exact hj)
        rw [List.getD_eq_getElem?_getD, List.getElem?_eq_getElem hj] at this
        exact absurd e this
      go_wp2
      go_ret
      exact ⟨by rw [HM.out]; rfl, HB.out⟩

end Np
end Go.Proofs.YtcmoajlcmeimiaaDoor
