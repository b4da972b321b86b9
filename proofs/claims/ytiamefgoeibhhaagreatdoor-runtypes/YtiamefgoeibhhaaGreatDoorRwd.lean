
import Derived.Test.YtiamefgoeibhhaaGreatDoorY2
import Derived.Test.YtiamefgoeibhhaaGreatDoorKk
import Derived.Lib.LaidTab
import Derived.Stop.LaidErr
import Derived.LaidLaws
import Derived.LaidHandle
import Derived.Stop.Joined
import Derived.RowKitTokens
namespace Go.Proofs.YtiamefgoeibhhaaGreatDoor
namespace Rwd
set_option linter.unusedVariables false
open Go.ChangeShapes Go.WideShapes Go.RowKit Di

theorem tabEq : (Rows.laid_internal_strconv_uint64pow10 : DataW Unit) = Lib.tabData .u64 Lib.pow10Tab := by kernel_rfl
theorem gTab : Tryz.prog.globalNamed tabName = some 4 := by kernel_rfl
theorem gTabType : (Tryz.prog.globals[4]?).map (·.type) = some 314 := by kernel_rfl
theorem uTab : Tryz.prog.underlying 314 = some (.array 20 271) := by kernel_rfl
theorem uU64 : Tryz.prog.underlying 271 = some (.int .u64) := by kernel_rfl
theorem cU64 : Tryz.prog.cellsOf 271 = 1 := by kernel_rfl
theorem cTab : Tryz.prog.cellsOf 314 = 20 := by kernel_rfl
theorem gErr : Tryz.prog.globalNamed "strconv.ErrSyntax" = some 2 := by kernel_rfl
theorem gErrType : (Tryz.prog.globals[2]?).map (·.type) = some 32 := by kernel_rfl
theorem cES : Tryz.prog.cellsOf 312 = 1 := by kernel_rfl
theorem cS : Tryz.prog.cellsOf 9 = 1 := by kernel_rfl
theorem star : "*" ++ "errors.errorString" = "*errors.errorString" := by decide
theorem rowES (u : TypeId) (h : Tryz.prog.typeName? 3 u = some "*errors.errorString") : u = 310 :=
  typeName_ptr_named (nm := "errors.errorString") (by rw [star]; kernel_rfl) (by kernel_rfl) (by decide) u (by rw [star]; exact h)

theorem parts {W : World} (h : laidMetH Tryz.prog Rows.runBeginsRow.laid W) : laidMet Tryz.prog (Rows.runBeginsRow.laid.take 4 ++ Rows.runBeginsRow.laid.drop 5) W ∧ handlesMet Tryz.prog ((Rows.runBeginsRow.laid.drop 4).take 1) W := h
theorem et_of {W : World} (h : laidMetH Tryz.prog Rows.runBeginsRow.laid W) : Kt.ET W :=
  Kk.handle_of_laid (W := W) (show laidMet Tryz.prog [] W ∧ handlesMet Tryz.prog Kk.laid W from ⟨laidMet_nil _ _, (parts h).2⟩)
theorem lib_of {W : World} (h : laidMetH Tryz.prog Rows.runBeginsRow.laid W) (hsh : W.ShapedOpen Tryz.prog) : Lib3 W := by
  have h0 := (parts h).1
  refine ⟨?_, ?_, ?_⟩
  · have h3 : laidMet Tryz.prog ((tabName, Lib.tabData .u64 Lib.pow10Tab) :: ((Rows.runBeginsRow.laid.drop 3).take 1 ++ Rows.runBeginsRow.laid.drop 5)) W := by
      rw [← tabEq]; exact h0.tail.tail
    exact Lib.tabIs_of_head gTab gTabType uTab uU64 cU64 cTab h3
  · exact Go.Proofs.cell_of_shapedOpen_int (zero := #[.int .i64 0]) (t := 3) hsh (of_decide_eq_true (by kernel_rfl)) (by kernel_rfl) rfl (by kernel_rfl) (by kernel_rfl) Tryz.underlying3
  · obtain ⟨a, s, hv, _⟩ := laid_sentinel h0.tail.tail.tail.tail.tail gErr gErrType Tryz.underlying32 rowES Tryz.underlying310 Tryz.underlying312 rfl rfl Tryz.underlying9 cES cS
    exact ⟨_, _, hv⟩

def flat : Nat → DataW Unit → List Value
  | 0, _ => []
  | f + 1, .agg ds => ds.flatMap (flat f)
  | _, .lit (.int k n) => [.int k n]
  | _, _ => []
def put (cs : Array Value) : Obj → Obj
  | .cells _ t frozen => .cells cs t frozen
  | o => o
def heapOf (h : Array Obj) (lo : Nat) : Array Obj :=
  (((((((h.modify 0 Kk.put).modify 7 (put (flat 3 Rows.laid_math_bits_deBruijn32tab).toArray)).modify 8 (put (flat 3 Rows.laid_math_bits_deBruijn64tab).toArray)).modify
    4 (put (flat 3 Rows.laid_internal_strconv_uint64pow10).toArray)).modify 6 (put (flat 3 Rows.laid_unicode_utf8_acceptRanges).toArray)).modify
    5 (put (flat 3 Rows.laid_unicode_utf8_first).toArray)).modify 3 (put #[.iface 310 (.pointer (some ⟨lo, 0, none⟩))])).modify
    2 (put #[.iface 310 (.pointer (some ⟨lo + 1, 0, none⟩))])
abbrev rangeS : ByteArray := ⟨#[118, 97, 108, 117, 101, 32, 111, 117, 116, 32, 111, 102, 32, 114, 97, 110, 103, 101]⟩
abbrev syntaxS : ByteArray := ⟨#[105, 110, 118, 97, 108, 105, 100, 32, 115, 121, 110, 116, 97, 120]⟩
abbrev start : Input := ⟨#[.cells #[.string rangeS] 312, .cells #[.string syntaxS] 312], #[], []⟩
theorem laid_met (os : Os) (args : Array Value) : laidMetH Tryz.prog Rows.runBeginsRow.laid (({ World.holding Tryz.prog os start with heap := heapOf (World.holding Tryz.prog os start).heap (World.holding Tryz.prog os ⟨#[], #[], []⟩).heap.size } : World).forCall (fun _ _ => 0) ⟨#[], args, []⟩).memory :=
  laidMetH_of_parts (laidMet_of_run' 8 (by kernel_rfl) (by kernel_rfl)) (by kernel_rfl)

end Rwd
end Go.Proofs.YtiamefgoeibhhaaGreatDoor
