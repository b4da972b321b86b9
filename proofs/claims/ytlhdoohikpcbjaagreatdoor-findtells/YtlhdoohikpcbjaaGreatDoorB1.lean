import Derived.Test.YtlhdoohikpcbjaaGreatDoorU0
import Derived.Test.YtlhdoohikpcbjaaGreatDoorJ1
set_option linter.unusedVariables false
namespace Go.Proofs.YtlhdoohikpcbjaaGreatDoor
namespace Ba
open Cm Om Hm Um
open Op (bytesLess)
open Bm (Leaf none0 ahd has leafAt bookE isL putE putL stX wrX wrE)
theorem stands : True := trivial
end Ba
namespace Bf
open Cm Om Hm Um Ba
open Op (bytesLess)
open Bm (Leaf none0 ahd has leafAt bookE isL putE putL stX wrX wrE Rise leafE)
structure Ok (B : List Leaf) : Prop where
 rise : Rise B
 leaf : ∀ x ∈ B, leafE x = 0
theorem Ok.book {B : List Leaf} (h : Ok B) (hl : B.length ≤ 300) : bookE B = 0 := Bm.bookE_zero.2 ⟨hl, h.leaf, h.rise⟩
end Bf
namespace Bp
open Cm Om Hm Um Ba Bf
open Op (bytesLess)
open Bm (Leaf none0 ahd has leafAt bookE isL putE putL stX wrX wrE Rise leafE isS)
theorem chk_size {p : ByteArray} (h : Pm.chk p.toList = 0) : p.size ≤ 12 := by
 have := (Bm.chk_pos h).2
 rw [Om.len_eq] at this; exact this
end Bp
end Go.Proofs.YtlhdoohikpcbjaaGreatDoor
