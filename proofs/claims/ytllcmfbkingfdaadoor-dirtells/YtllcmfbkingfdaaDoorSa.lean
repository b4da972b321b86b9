/- Stretches in memory (a stretch is a text and two numbers, as a mark is): leafsame.Stretches. -/
import Derived.Test.YtllcmfbkingfdaaDoorJ4
import Derived.Laws.StructEq
import Derived.Deep.QuietTactic
import Derived.BigQuiet
namespace Go.Proofs.YtllcmfbkingfdaaDoor
namespace Sa
set_option linter.unusedVariables false
open Go.ChangeShapes Go.WideShapes Go.ChangeAt Go.RowKit Cm Ka Kb Na
open La (bel bel_drew errV_zero errV_ne own_ge own_grow own_below)

theorem st_ne {s t : ByteArray} {n m : Int} {a b : Int} : ((s, n, a) : Mk) = (t, m, b) ↔ s.toList = t.toList ∧ n = m ∧ a = b := by
  constructor
  · intro h; injection h with h1 h2; injection h2 with h2 h3; exact ⟨by rw [h1], h2, h3⟩
  · rintro ⟨h1, rfl, rfl⟩; rw [Bm.bytes_inj h1]

theorem neq_st (s t : ByteArray) (n m : Int) (a b : Int) (w : World) : (binOp .neq 45 (.agg #[.string s, .int .i64 n, .int .i64 a]) (.agg #[.string t, .int .i64 m, .int .i64 b])).run Tryd.prog w = .ok (.bool (!decide (((s, n, a) : Mk) = (t, m, b)))) w := by
  have u3 := Tryd.underlying3
  have a3 := Tryd.isAgg3
  have z3 := Tryd.sizeOf3
  have u4 := Tryd.underlying4
  have a4 := Tryd.isAgg4
  have z4 := Tryd.sizeOf4
  have u9 := Tryd.underlying9
  have a9 := Tryd.isAgg9
  have z9 := Tryd.sizeOf9
  have hS : Tryd.prog.underlying 45 = some (.struct (Tryd.prog.fieldsOf 45)) := by kernel_rfl
  have hp : Tryd.prog.stoodInHeld 45 = false := by kernel_rfl
  rw [run_neq_struct, show (10000 : Nat) = 9999 + 1 from rfl, run_equalIn_agg w 9999 45 _ _ hS hp]
  simp only [Program.fieldsOf, Tryd.underlying45]
  have hd : decide (((s, n, a) : Mk) = (t, m, b)) = (s.toList == t.toList && (n == m && a == b)) := by
    rw [Bool.eq_iff_iff]; simp only [decide_eq_true_eq, st_ne, Bool.and_eq_true, beq_iff_eq]
  rw [hd]
  go_simp
  by_cases h1 : s.toList = t.toList <;> by_cases h2 : n = m <;> by_cases h3 : a = b <;> simp [h1, h2, h3]

set_option maxHeartbeats 1000000 in
theorem stretches_any (v u : Value) (a b : List Mk) (w : World) (h1 : MksAt w v a) (h2 : MksAt w u b) (hn : a.length ≤ 1048576) :
    Calls Tryd.prog 15 #[v, u] w fun e w' => e = .returned (.bool (decide (a = b))) ∧ Below w.heap.size w w' := by
  obtain ⟨p, c, rfl, hlf, _⟩ := h1
  obtain ⟨q, d, rfl, hlg, _⟩ := h2
  obtain ⟨n, ha⟩ : ∃ n, a.length = n := ⟨_, rfl⟩
  obtain ⟨m, hb⟩ : ∃ m, b.length = m := ⟨_, rfl⟩
  rw [ha, hb]
  rw [ha] at hn
  by_cases hnm : n = m
  · subst hnm
    have HA : Hid (a.length = n) := ha
    have HB : Hid (b.length = n) := hb
    have HF : Hid (MarksIn w p a) := hlf
    have HG : Hid (MarksIn w q b) := hlg
    clear ha hb hlf hlg
    go_enter Tryd.func15, Tryd.ntmps15
    go_wp2
    go_loopw [5] (fun i wr => ∃ k : Nat, k ≤ n ∧ i = .int .i64 k ∧ Hid (∀ j, j < k → a.getD j none1 = b.getD j none1) ∧ Hid (Below w.heap.size w wr)) (fun i _ => n - (intOf i).toNat)
    case atStart => exact ⟨0, by omega, rfl, fun j hj => absurd hj (by omega), Below.refl _ _⟩
    case round =>
      obtain ⟨k, hk, rfl, HK, HBE⟩ := hrel
      by_cases hlt : k < n
      · have hltz : (k : Int) < n := by omega
        obtain ⟨b1, o1, rfl, c1⟩ := HF.out.some (by intro e; have := HA.out; rw [e] at this; simp at this; omega)
        obtain ⟨b2, o2, rfl, c2⟩ := HG.out.some (by intro e; have := HB.out; rw [e] at this; simp at this; omega)
        have e1 := (c1 k (by rw [HA.out]; exact hlt)).below HBE.out (c1 k (by rw [HA.out]; exact hlt)).lt
        have e2 := (c2 k (by rw [HB.out]; exact hlt)).below HBE.out (c2 k (by rw [HB.out]; exact hlt)).lt
        obtain ⟨x, hx⟩ : ∃ x, x = a.getD k none1 := ⟨_, rfl⟩
        obtain ⟨y, hy⟩ : ∃ y, y = b.getD k none1 := ⟨_, rfl⟩
        rw [← hx] at e1
        rw [← hy] at e2
        have HX : Hid (x = a.getD k none1) := hx
        have HY : Hid (y = b.getD k none1) := hy
        clear hx hy c1 c2
        obtain ⟨sx, nx, bx⟩ := x
        obtain ⟨sy, ny, by'⟩ := y
        obtain ⟨x1, x2, x3⟩ := e1
        obtain ⟨y1, y2, y3⟩ := e2
        simp only at x1 x2 x3 y1 y2 y3
        have hq : ∀ w, (binOp .neq 45 (.agg #[.string sx, .int .i64 nx, .int .i64 bx]) (.agg #[.string sy, .int .i64 ny, .int .i64 by'])).run Tryd.prog w = .ok (.bool (!decide (((sx, nx, bx) : Mk) = (sy, ny, by')))) w := fun w => neq_st sx sy nx ny bx by' w
        have hg : Tryd.prog.eqGuardType Tryd.prog.depth 45 = false := by kernel_rfl
        by_cases hxy : ((sx, nx, bx) : Mk) = (sy, ny, by')
        · rw [decide_eq_true hxy] at hq
          have HXY : Hid (((sx, nx, bx) : Mk) = (sy, ny, by')) := hxy
          clear hxy
          go_wp2
          go_quiet (fail)
          go_wp2
          go_roundw
          case rel => exact ⟨k + 1, by omega, by go_num, fun j hj => by
            rcases Nat.lt_succ_iff_lt_or_eq.1 hj with h | rfl
            · exact HK.out j h
            · rw [← HX.out, ← HY.out]; exact HXY.out, bel_drew HBE.out _⟩
          case measure => simp [intOf]; omega
        · rw [decide_eq_false hxy] at hq
          have HNE : Hid (decide (a = b) = false) := by
            rw [Hid, decide_eq_false_iff_not]; intro e
            apply hxy; rw [HX.out, HY.out, e]
          clear hxy
          go_wp2
          go_quiet (fail)
          go_wp2
          go_ret
          exact ⟨by rw [HNE.out]; rfl, bel_drew HBE.out _⟩
      · obtain rfl : k = n := by omega
        have HEQ : Hid (decide (a = b) = true) := by
          rw [Hid, decide_eq_true_eq]
          apply List.ext_getElem?
          intro i
          by_cases hi : i < k
          · have := HK.out i hi
            rw [List.getD_eq_getElem?_getD, List.getD_eq_getElem?_getD, List.getElem?_eq_getElem (by rw [HA.out]; exact hi), List.getElem?_eq_getElem (by rw [HB.out]; exact hi)] at this
            rw [List.getElem?_eq_getElem (by rw [HA.out]; exact hi), List.getElem?_eq_getElem (by rw [HB.out]; exact hi)]
            simpa using this
          · rw [List.getElem?_eq_none (by rw [HA.out]; omega), List.getElem?_eq_none (by rw [HB.out]; omega)]
        go_wp2
        go_ret
        exact ⟨by rw [HEQ.out]; rfl, HBE.out⟩
  · have hnm' : ((n : Int) == (m : Int)) = false := by simp; omega
    have HE : Hid (decide (a = b) = false) := by
      rw [Hid, decide_eq_false_iff_not]; rintro rfl; omega
    clear ha hb hlf hlg
    go_enter Tryd.func15, Tryd.ntmps15
    go_wp2
    go_ret
    exact ⟨by rw [HE.out]; rfl, Below.refl _ _⟩

end Sa
end Go.Proofs.YtllcmfbkingfdaaDoor
