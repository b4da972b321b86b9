/- What BookTells calls, at one book and one place: each call by its contract, in whatever later world. -/
import Derived.Test.YtaefoieoachdfaaDoorMa
import Derived.Test.YtaefoieoachdfaaDoorMe
import Derived.Test.YtaefoieoachdfaaDoorKl
namespace Go.Proofs.YtaefoieoachdfaaDoor
namespace Ga
set_option linter.unusedVariables false
open Go.ChangeShapes Go.WideShapes Go.ChangeAt Go.RowKit Bm Ka Kb La Lb Lc Ld Le Lf Lg Lh Li Lj Lk Lp Ma Mb Mc Md Me Kt Kl

theorem err_same (k : Int) (w W : World) (hg : ET w) (hb : Below w.heap.size w W) : Calls Tryd.prog 7 #[errV k, .int .i64 k] W fun e w' => e = .returned (.bool true) ∧ Below W.heap.size W w' := by
  refine (same_any k k W (Kl.ET.below hg hb)).mono ?_
  rintro e w' ⟨rfl, h⟩
  exact ⟨by simp, h⟩
theorem leafs_same (v u : Value) (a b : List Leaf) (w : World) (h1 : BookAt w v a) (h2 : BookAt w u b) (he : a = b) (hn : a.length ≤ 300) : Calls Tryd.prog 19 #[v, u] w fun e w' => e = .returned (.bool true) ∧ Below w.heap.size w w' := by
  have := leafs_any v u a b w h1 h2 (by omega)
  rw [decide_eq_true he] at this
  exact this
theorem write_len {l : List Leaf} {p : ByteArray} (c : Int) : (writeL l p c).length ≤ 300 := by
  by_cases h : writeE l p c = 0
  · exact (book_ok (write_book h).1).1
  · unfold writeL; rw [if_neg h]; simp
theorem strike_len {l : List Leaf} {p : ByteArray} : (strikeL l p).length ≤ 300 := by
  by_cases h : strikeE l p = 0
  · exact (book_ok (strike_book h).1).1
  · unfold strikeL; rw [if_neg h]; simp

end Ga
end Go.Proofs.YtaefoieoachdfaaDoor
