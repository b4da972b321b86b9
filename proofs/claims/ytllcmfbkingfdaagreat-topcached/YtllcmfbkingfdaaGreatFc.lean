/- What the laws ask of package cache: a cache in memory, and each call's answer, at all inputs. -/
import Derived.Test.YtllcmfbkingfdaaGreatEf
import Derived.Test.YtllcmfbkingfdaaGreatFb
namespace Go.Proofs.YtllcmfbkingfdaaGreat
namespace Fc
set_option linter.unusedVariables false
open Go.ChangeShapes Go.WideShapes Go.ChangeAt Go.RowKit Ka Kb Ef

abbrev ptr (X : Nat) : Value := .pointer (some ⟨X, 0, none⟩)
/- few texts, a budget that New takes -/
def Fit (b : Nat) (m : List Fb.Kp) : Prop := b ≤ 10000 ∧ m.length ≤ 1000
/- one cache, from block B on -/
/- texts that lie apart from the cache stay while it is written -/
theorem txt_stay {R : Nat → Prop} {w w' : World} {v : Value} {l : List ByteArray} {F : Nat → Prop} (h : TxJ R w v l) (hR : ∀ g, R g → g < w.heap.size ∧ ¬ F g) (hc : Chg F w w') : TxJ R w' v l := h.stay (hc.stay hR)

end Fc
end Go.Proofs.YtllcmfbkingfdaaGreat
