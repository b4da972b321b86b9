/- What the listed variables of the row give a walk, and a world that meets the list. -/
import Derived.Test.YtllcmfbkingfdaaDoorDi
import Derived.Lib.LaidTab
import Derived.Stop.LaidErr
import Derived.LaidLaws
import Derived.LaidHandle
import Derived.Stop.Joined
import Derived.RowKitTokens
namespace Go.Proofs.YtllcmfbkingfdaaDoor
namespace Dr
set_option linter.unusedVariables false
open Go.ChangeShapes Go.WideShapes Go.RowKit Di

theorem own : ownKnob Tryd.prog.godebug = none := by kernel_rfl
theorem tabEq : (Rows.laid_internal_strconv_uint64pow10 : DataW Unit) = Lib.tabData .u64 Lib.pow10Tab := by kernel_rfl
theorem gTab : Tryd.prog.globalNamed tabName = some 4 := by kernel_rfl
theorem gTabType : (Tryd.prog.globals[4]?).map (·.type) = some 167 := by kernel_rfl
theorem uTab : Tryd.prog.underlying 167 = some (.array 20 133) := by kernel_rfl
theorem uU64 : Tryd.prog.underlying 133 = some (.int .u64) := by kernel_rfl
theorem cU64 : Tryd.prog.cellsOf 133 = 1 := by kernel_rfl
theorem cTab : Tryd.prog.cellsOf 167 = 20 := by kernel_rfl
theorem gErr : Tryd.prog.globalNamed "strconv.ErrSyntax" = some 2 := by kernel_rfl
theorem gErrType : (Tryd.prog.globals[2]?).map (·.type) = some 24 := by kernel_rfl
theorem cES : Tryd.prog.cellsOf 183 = 1 := by kernel_rfl
theorem cS : Tryd.prog.cellsOf 9 = 1 := by kernel_rfl
theorem star : "*" ++ "errors.errorString" = "*errors.errorString" := by decide
theorem rowES (u : TypeId) (h : Tryd.prog.typeName? 3 u = some "*errors.errorString") : u = 181 :=
  typeName_ptr_named (nm := "errors.errorString") (by rw [star]; kernel_rfl) (by kernel_rfl) (by decide) u (by rw [star]; exact h)

theorem lib_of {W : World} (h : laidMetH Tryd.prog Rows.dotMergesUptoRow.laid W) (hsh : W.ShapedOpen Tryd.prog) : Lib3 W := by
  have h0 : laidMet Tryd.prog Rows.dotMergesUptoRow.laid W := h
  refine ⟨?_, ?_, ?_⟩
  · have h3 : laidMet Tryd.prog ((tabName, Lib.tabData .u64 Lib.pow10Tab) :: Rows.dotMergesUptoRow.laid.drop 3) W := by
      rw [← tabEq]; exact h0.tail.tail
    exact Lib.tabIs_of_head gTab gTabType uTab uU64 cU64 cTab h3
  · exact Go.Proofs.cell_of_shapedOpen_int (zero := #[.int .i64 0]) (t := 3) hsh (of_decide_eq_true (by kernel_rfl)) (by kernel_rfl) rfl (by kernel_rfl) (by kernel_rfl) Tryd.underlying3
  · obtain ⟨a, s, hv, _⟩ := laid_sentinel h0.tail.tail.tail.tail.tail gErr gErrType Tryd.underlying24 rowES Tryd.underlying181 Tryd.underlying183 rfl rfl Tryd.underlying9 cES cS
    exact ⟨_, _, hv⟩

/- a world that meets the list: the cells that a datum of numbers lays -/
def flat : Nat → DataW Unit → List Value
  | 0, _ => []
  | f + 1, .agg ds => ds.flatMap (flat f)
  | _, .lit (.int k n) => [.int k n]
  | _, _ => []
def put (cs : Array Value) : Obj → Obj
  | .cells _ t frozen => .cells cs t frozen
  | o => o
def heapOf (h : Array Obj) (lo : Nat) : Array Obj :=
  ((((((h.modify 7 (put (flat 3 Rows.laid_math_bits_deBruijn32tab).toArray)).modify 8 (put (flat 3 Rows.laid_math_bits_deBruijn64tab).toArray)).modify
    4 (put (flat 3 Rows.laid_internal_strconv_uint64pow10).toArray)).modify 6 (put (flat 3 Rows.laid_unicode_utf8_acceptRanges).toArray)).modify
    5 (put (flat 3 Rows.laid_unicode_utf8_first).toArray)).modify 3 (put #[.iface 181 (.pointer (some ⟨lo, 0, none⟩))])).modify
    2 (put #[.iface 181 (.pointer (some ⟨lo + 1, 0, none⟩))])
abbrev rangeS : ByteArray := ⟨#[118, 97, 108, 117, 101, 32, 111, 117, 116, 32, 111, 102, 32, 114, 97, 110, 103, 101]⟩
abbrev syntaxS : ByteArray := ⟨#[105, 110, 118, 97, 108, 105, 100, 32, 115, 121, 110, 116, 97, 120]⟩
abbrev start : Input := ⟨#[.cells #[.string rangeS] 183, .cells #[.string syntaxS] 183], #[], []⟩
theorem laid_met (os : Os) (args : Array Value) : laidMetH Tryd.prog Rows.dotMergesUptoRow.laid (({ World.holding Tryd.prog os start with heap := heapOf (World.holding Tryd.prog os start).heap (World.holding Tryd.prog os ⟨#[], #[], []⟩).heap.size } : World).forCall (fun _ _ => 0) ⟨#[], args, []⟩).memory :=
  laidMetH_of_parts (laidMet_of_run' 8 (by kernel_rfl) (by kernel_rfl)) (by kernel_rfl)

end Dr
end Go.Proofs.YtllcmfbkingfdaaDoor
