/- The answers of Room and Between, by lists. No program is named here. -/
import Derived.Test.YtekcjhembcdgfaaDoorPo
namespace Go.Proofs.YtekcjhembcdgfaaDoor
namespace Pm

def pick (st : List (List UInt8)) : List UInt8 := st.getD ((st.length - 1) / 4) []
def roomErr (a b : List UInt8) : Int :=
  if sides a b ≠ 0 then sides a b else if (search a b 11 [[]]).isNone then 8 else 0
def roomLen (a b : List UInt8) : Int :=
  if sides a b ≠ 0 then 0 else match search a b 11 [[]] with
    | none => 0
    | some st => ((st.getD 0 []).length : Int) + 1
def betErr (a b : List UInt8) (who : Int) : Int := if isWho who then roomErr a b else 1
def betText (a b : List UInt8) (who : Int) : List UInt8 :=
  if isWho who then (if sides a b ≠ 0 then [] else match search a b 11 [[]] with
    | none => []
    | some st => pick st ++ [UInt8.ofNat (97 + who.toNat)]) else []

end Pm
end Go.Proofs.YtekcjhembcdgfaaDoor
