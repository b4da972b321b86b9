/- When two lists of dots, two lists of texts are the same. -/
import Derived.Test.YtcmoajlcmeimiaaDoorNp
import Derived.Test.YtcmoajlcmeimiaaDoorNr
namespace Go.Proofs.YtcmoajlcmeimiaaDoor
namespace Wf
set_option linter.unusedVariables false
open Go.ChangeShapes Go.WideShapes Go.ChangeAt Go.RowKit Cm Ka Kb Na Nb Nc Nd Nj Nk Np Nr
open La (bel bel_drew errV_zero errV_ne own_ge own_grow own_below)

theorem neq_dot (n m a b : Int) (w : World) : (binOp .neq 24 (.agg #[.int .i64 n, .int .i64 a]) (.agg #[.int .i64 m, .int .i64 b])).run Tryd.prog w = .ok (.bool (!decide (((n, a) : Dt) = (m, b)))) w := by
  have u3 := Tryd.underlying3
  have a3 := Tryd.isAgg3
  have z3 := Tryd.sizeOf3
  have hS : Tryd.prog.underlying 24 = some (.struct (Tryd.prog.fieldsOf 24)) := by kernel_rfl
  have hp : Tryd.prog.stoodInHeld 24 = false := by kernel_rfl
  rw [run_neq_struct, show (10000 : Nat) = 9999 + 1 from rfl, run_equalIn_agg w 9999 24 _ _ hS hp]
  simp only [Program.fieldsOf, Tryd.underlying24]
  rw [dot_same]
  go_simp
  by_cases h2 : n = m <;> by_cases h3 : a = b <;> simp [h2, h3]

def SIn (w : World) (p : Option Addr) (l : List ByteArray) : Prop := l = [] ∨ ∃ b o, p = some ⟨b, o, none⟩ ∧ ∀ j, j < l.length → w.cell? ⟨b, o + j, none⟩ = some (.string (l.getD j noS))
theorem SIn.some {w : World} {p : Option Addr} {l : List ByteArray} (h : SIn w p l) (hl : l ≠ []) : ∃ b o, p = some ⟨b, o, none⟩ ∧ ∀ j, j < l.length → w.cell? ⟨b, o + j, none⟩ = some (.string (l.getD j noS)) := by
  rcases h with h | h
  · exact absurd h hl
  · exact h

set_option maxHeartbeats 1000000 in
theorem dots_any (v u : Value) (a b : List Dt) (w : World) (h1 : DtsAt w v a) (h2 : DtsAt w u b) (hn : a.length ≤ 1048576) :
    Calls Tryd.prog 17 #[v, u] w fun e w' => e = .returned (.bool (decide (a = b))) ∧ Below w.heap.size w w' := by
  obtain ⟨p, c, rfl, hlf, _⟩ := h1
  obtain ⟨q, d, rfl, hlg, _⟩ := h2
  obtain ⟨n, ha⟩ : ∃ n, a.length = n := ⟨_, rfl⟩
  obtain ⟨m, hb⟩ : ∃ m, b.length = m := ⟨_, rfl⟩
  rw [ha, hb]
  rw [ha] at hn
  by_cases hnm : n = m
  · subst hnm
    have HA : Hid (a.length = n) := ha
    have HB : Hid (b.length = n) := hb
    have HF : Hid (DotsIn w p a) := hlf
    have HG : Hid (DotsIn w q b) := hlg
    clear ha hb hlf hlg
    go_enter Tryd.func17, Tryd.ntmps17
    go_wp2
    go_loopw [5] (fun i wr => ∃ k : Nat, k ≤ n ∧ i = .int .i64 k ∧ Hid (∀ j, j < k → a.getD j noneD = b.getD j noneD) ∧ Hid (Below w.heap.size w wr)) (fun i _ => n - (intOf i).toNat)
    case atStart => exact ⟨0, by omega, rfl, fun j hj => absurd hj (by omega), Below.refl _ _⟩
    case round =>
      obtain ⟨k, hk, rfl, HK, HBE⟩ := hrel
      by_cases hlt : k < n
      · have hltz : (k : Int) < n := by omega
        obtain ⟨b1, o1, rfl, c1⟩ := HF.out.some (by intro e; have := HA.out; rw [e] at this; simp at this; omega)
        obtain ⟨b2, o2, rfl, c2⟩ := HG.out.some (by intro e; have := HB.out; rw [e] at this; simp at this; omega)
        have e1 := (c1 k (by rw [HA.out]; exact hlt)).below HBE.out (c1 k (by rw [HA.out]; exact hlt)).lt
        have e2 := (c2 k (by rw [HB.out]; exact hlt)).below HBE.out (c2 k (by rw [HB.out]; exact hlt)).lt
        obtain ⟨x, hx⟩ : ∃ x, x = a.getD k noneD := ⟨_, rfl⟩
        obtain ⟨y, hy⟩ : ∃ y, y = b.getD k noneD := ⟨_, rfl⟩
        rw [← hx] at e1
        rw [← hy] at e2
        have HX : Hid (x = a.getD k noneD) := hx
        have HY : Hid (y = b.getD k noneD) := hy
        clear hx hy c1 c2
        obtain ⟨nx, bx⟩ := x
        obtain ⟨ny, by'⟩ := y
        obtain ⟨x1, x2⟩ := e1
        obtain ⟨y1, y2⟩ := e2
        simp only at x1 x2 y1 y2
        have hq : ∀ w, (binOp .neq 24 (.agg #[.int .i64 nx, .int .i64 bx]) (.agg #[.int .i64 ny, .int .i64 by'])).run Tryd.prog w = .ok (.bool (!decide (((nx, bx) : Dt) = (ny, by')))) w := fun w => neq_dot nx ny bx by' w
        have hg : Tryd.prog.eqGuardType Tryd.prog.depth 24 = false := by kernel_rfl
        by_cases hxy : ((nx, bx) : Dt) = (ny, by')
        · rw [decide_eq_true hxy] at hq
          have HXY : Hid (((nx, bx) : Dt) = (ny, by')) := hxy
          clear hxy
          go_wp2
          go_quiet (fail)
          go_wp2
          go_roundw
          case rel => exact ⟨k + 1, by omega, by go_num, fun j hj => by
            rcases Nat.lt_succ_iff_lt_or_eq.1 hj with h | rfl
            · exact HK.out j h
            · rw [← HX.out, ← HY.out]; exact HXY.out, bel_drew HBE.out _⟩
          case measure => simp [intOf]; omega
        · rw [decide_eq_false hxy] at hq
          have HNE : Hid (decide (a = b) = false) := by
            rw [Hid, decide_eq_false_iff_not]; intro e
            apply hxy; rw [HX.out, HY.out, e]
          clear hxy
          go_wp2
          go_quiet (fail)
          go_wp2
          go_ret
          exact ⟨by rw [HNE.out]; rfl, bel_drew HBE.out _⟩
      · obtain rfl : k = n := by omega
        have HEQ : Hid (decide (a = b) = true) := by
          rw [Hid, decide_eq_true_eq]
          apply List.ext_getElem?
          intro i
          by_cases hi : i < k
          · have := HK.out i hi
            rw [List.getD_eq_getElem?_getD, List.getD_eq_getElem?_getD, List.getElem?_eq_getElem (by rw [HA.out]; exact hi), List.getElem?_eq_getElem (by rw [HB.out]; exact hi)] at this
            rw [List.getElem?_eq_getElem (by rw [HA.out]; exact hi), List.getElem?_eq_getElem (by rw [HB.out]; exact hi)]
            simpa using this
          · rw [List.getElem?_eq_none (by rw [HA.out]; omega), List.getElem?_eq_none (by rw [HB.out]; omega)]
        go_wp2
        go_ret
        exact ⟨by rw [HEQ.out]; rfl, HBE.out⟩
  · have hnm' : ((n : Int) == (m : Int)) = false := by simp; omega
    have HE : Hid (decide (a = b) = false) := by
      rw [Hid, decide_eq_false_iff_not]; rintro rfl; omega
    clear ha hb hlf hlg
    go_enter Tryd.func17, Tryd.ntmps17
    go_wp2
    go_ret
    exact ⟨by rw [HE.out]; rfl, Below.refl _ _⟩



set_option maxHeartbeats 1000000 in
theorem texts_any (v u : Value) (a b : List ByteArray) (w : World) (h1 : StsAt w v a) (h2 : StsAt w u b) (hn : a.length ≤ 1048576) :
    Calls Tryd.prog 14 #[v, u] w fun e w' => e = .returned (.bool (decide (a = b))) ∧ Below w.heap.size w w' := by
  obtain ⟨p, c, rfl, hlf⟩ := h1
  obtain ⟨q, d, rfl, hlg⟩ := h2
  obtain ⟨n, ha⟩ : ∃ n, a.length = n := ⟨_, rfl⟩
  obtain ⟨m, hb⟩ : ∃ m, b.length = m := ⟨_, rfl⟩
  rw [ha, hb]
  rw [ha] at hn
  by_cases hnm : n = m
  · subst hnm
    have HA : Hid (a.length = n) := ha
    have HB : Hid (b.length = n) := hb
    have HF : Hid (SIn w p a) := hlf
    have HG : Hid (SIn w q b) := hlg
    clear ha hb hlf hlg
    go_enter Tryd.func14, Tryd.ntmps14
    go_wp2
    go_loopw [5] (fun i wr => ∃ k : Nat, k ≤ n ∧ i = .int .i64 k ∧ Hid (∀ j, j < k → a.getD j noS = b.getD j noS) ∧ Hid (Below w.heap.size w wr)) (fun i _ => n - (intOf i).toNat)
    case atStart => exact ⟨0, by omega, rfl, fun j hj => absurd hj (by omega), Below.refl _ _⟩
    case round =>
      obtain ⟨k, hk, rfl, HK, HBE⟩ := hrel
      by_cases hlt : k < n
      · have hltz : (k : Int) < n := by omega
        obtain ⟨b1, o1, rfl, c1⟩ := HF.out.some (by intro e; have := HA.out; rw [e] at this; simp at this; omega)
        obtain ⟨b2, o2, rfl, c2⟩ := HG.out.some (by intro e; have := HB.out; rw [e] at this; simp at this; omega)
        have e1 := keep_cell HBE.out (c1 k (by rw [HA.out]; exact hlt))
        have e2 := keep_cell HBE.out (c2 k (by rw [HB.out]; exact hlt))
        obtain ⟨x, hx⟩ : ∃ x, x = a.getD k noS := ⟨_, rfl⟩
        obtain ⟨y, hy⟩ : ∃ y, y = b.getD k noS := ⟨_, rfl⟩
        rw [← hx] at e1
        rw [← hy] at e2
        have HX : Hid (x = a.getD k noS) := hx
        have HY : Hid (y = b.getD k noS) := hy
        clear hx hy c1 c2
        by_cases hxy : x = y
        · have HXY : Hid (x = y) := hxy
          rw [hxy] at e1
          clear hxy
          go_wp2
          go_quiet (fail)
          go_wp2
          go_roundw
          case rel => exact ⟨k + 1, by omega, by go_num, fun j hj => by
            rcases Nat.lt_succ_iff_lt_or_eq.1 hj with h | rfl
            · exact HK.out j h
            · rw [← HX.out, ← HY.out]; exact HXY.out, bel_drew HBE.out _⟩
          case measure => simp [intOf]; omega
        · have hne : ¬ x.toList = y.toList := fun e => hxy (Bm.bytes_inj e)
          have hnb : (x.toList == y.toList) = false := by simpa using hne
          have HNE : Hid (decide (a = b) = false) := by
            rw [Hid, decide_eq_false_iff_not]; intro e
            apply hxy; rw [HX.out, HY.out, e]
          clear hxy hne
          go_wp2
          go_quiet (fail)
          go_wp2
          go_ret
          exact ⟨by rw [HNE.out]; rfl, bel_drew HBE.out _⟩
      · obtain rfl : k = n := by omega
        have HEQ : Hid (decide (a = b) = true) := by
          rw [Hid, decide_eq_true_eq]
          apply List.ext_getElem?
          intro i
          by_cases hi : i < k
          · have := HK.out i hi
            rw [List.getD_eq_getElem?_getD, List.getD_eq_getElem?_getD, List.getElem?_eq_getElem (by rw [HA.out]; exact hi), List.getElem?_eq_getElem (by rw [HB.out]; exact hi)] at this
            rw [List.getElem?_eq_getElem (by rw [HA.out]; exact hi), List.getElem?_eq_getElem (by rw [HB.out]; exact hi)]
            simpa using this
          · rw [List.getElem?_eq_none (by rw [HA.out]; omega), List.getElem?_eq_none (by rw [HB.out]; omega)]
        go_wp2
        go_ret
        exact ⟨by rw [HEQ.out]; rfl, HBE.out⟩
  · have hnm' : ((n : Int) == (m : Int)) = false := by simp; omega
    have HE : Hid (decide (a = b) = false) := by
      rw [Hid, decide_eq_false_iff_not]; rintro rfl; omega
    clear ha hb hlf hlg
    go_enter Tryd.func14, Tryd.ntmps14
    go_wp2
    go_ret
    exact ⟨by rw [HE.out]; rfl, Below.refl _ _⟩



end Wf
end Go.Proofs.YtcmoajlcmeimiaaDoor
