/- leafsame.Frames of two rows that hold the same frames. -/
import Derived.Test.YtaicacnijlneaaaDoorEo
import Derived.Laws.StructEq
namespace Go.Proofs.YtaicacnijlneaaaDoor
namespace Ev
set_option linter.unusedVariables false
set_option linter.unusedSimpArgs false
open Go.ChangeShapes Go.WideShapes Go.ChangeAt Go.RowKit Ka Kb Ec Ef Eg Em En Eo

set_option maxRecDepth 100000 in
theorem neq_self (a : Bool) (n : Int) (s : ByteArray) (w : World) : (binOp .neq 38 (.agg #[.bool a, .int .i64 n, .string s]) (.agg #[.bool a, .int .i64 n, .string s])).run Tryd.prog w = .ok (.bool false) w := by
  have t3 := Tryd.underlying3
  have t4 := Tryd.underlying4
  have t9 := Tryd.underlying9
  have a3 := Tryd.isAgg3
  have z3 := Tryd.sizeOf3
  have a4 := Tryd.isAgg4
  have z4 := Tryd.sizeOf4
  have a9 := Tryd.isAgg9
  have z9 := Tryd.sizeOf9
  have hS : Tryd.prog.underlying 38 = some (.struct (Tryd.prog.fieldsOf 38)) := by kernel_rfl
  have hp : Tryd.prog.stoodInHeld 38 = false := by kernel_rfl
  rw [run_neq_struct, show (10000 : Nat) = 9999 + 1 from rfl, run_equalIn_agg w 9999 38 _ _ hS hp]
  simp only [Program.fieldsOf, Tryd.underlying38]
  go_simp
  all_goals simp

set_option maxHeartbeats 1000000 in
theorem frames_same (v u : Value) (l : List Fr) (w : World) (R Q : Nat → Prop) (h1 : FrsJ R w v l) (h2 : FrsJ Q w u l) (hn : l.length ≤ 1048576) :
    Calls Tryd.prog 9 #[v, u] w fun e w' => e = .returned (.bool true) ∧ Below w.heap.size w w' := by
  obtain ⟨p, c, rfl, hlf, _⟩ := h1
  obtain ⟨q, d, rfl, hlg, _⟩ := h2
  obtain ⟨n, ha⟩ : ∃ n, l.length = n := ⟨_, rfl⟩
  rw [ha]
  rw [ha] at hn
  have HA : Hid (l.length = n) := ha
  have HF : Hid (FrsK R w p l) := hlf
  have HG : Hid (FrsK Q w q l) := hlg
  clear ha hlf hlg
  go_enter Tryd.func9, Tryd.ntmps9
  go_wp2
  go_loopw [5] (fun i wr => ∃ k : Nat, k ≤ n ∧ i = .int .i64 k ∧ Hid (Below w.heap.size w wr)) (fun i _ => n - (intOf i).toNat)
  case atStart => exact ⟨0, by omega, rfl, Below.refl _ _⟩
  case round =>
    obtain ⟨k, hk, rfl, HBE⟩ := hrel
    by_cases hlt : k < n
    · have hltz : (k : Int) < n := by omega
      obtain ⟨b1, o1, rfl, _, c1⟩ := HF.out.some (by intro e; have := HA.out; rw [e] at this; simp at this; omega)
      obtain ⟨b2, o2, rfl, _, c2⟩ := HG.out.some (by intro e; have := HA.out; rw [e] at this; simp at this; omega)
      have e1 := c1 k (by rw [HA.out]; exact hlt)
      have e2 := c2 k (by rw [HA.out]; exact hlt)
      obtain ⟨x, hx⟩ : ∃ x, x = l.getD k fz := ⟨_, rfl⟩
      rw [← hx] at e1 e2
      obtain ⟨bx, nx, sx⟩ := x
      obtain ⟨x1, x2, x3⟩ := e1
      obtain ⟨y1, y2, y3⟩ := e2
      have x1 := keep_cell HBE.out x1
      have x2 := keep_cell HBE.out x2
      have x3 := keep_cell HBE.out x3
      have y1 := keep_cell HBE.out y1
      have y2 := keep_cell HBE.out y2
      have y3 := keep_cell HBE.out y3
      simp only at x1 x2 x3 y1 y2 y3
      have hq : ∀ w, (binOp .neq 38 (.agg #[.bool bx, .int .i64 nx, .string sx]) (.agg #[.bool bx, .int .i64 nx, .string sx])).run Tryd.prog w = .ok (.bool false) w := fun w => neq_self bx nx sx w
      have hg : Tryd.prog.eqGuardType Tryd.prog.depth 38 = false := by kernel_rfl
      clear hx c1 c2
      go_wp2
      go_quiet (fail)
      go_wp2
      go_roundw
      case rel => exact ⟨k + 1, by omega, by go_num, bel_drew HBE.out _⟩
      case measure => simp [intOf]; omega
    · obtain rfl : k = n := by omega
      go_wp2
      go_ret
      exact ⟨rfl, HBE.out⟩

end Ev
end Go.Proofs.YtaicacnijlneaaaDoor
