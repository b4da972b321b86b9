/- What the laws ask of package link: an end in memory, and each call's answer, at all inputs. -/
import Derived.Test.YtaicacnijlneaaaDoorEf
namespace Go.Proofs.YtaicacnijlneaaaDoor
namespace Eg
set_option linter.unusedVariables false
open Go.ChangeShapes Go.WideShapes Go.ChangeAt Go.RowKit Ka Kb Ec Ef

/- an end of which no number is great -/
def Fit (s : Ln) : Prop := s.all.length ≤ 1000 ∧ s.got.length ≤ 1000 ∧ s.ticks ≤ 100000
abbrev ptr (X : Nat) : Value := .pointer (some ⟨X, 0, none⟩)
structure LinkSays where
  At : World → Nat → Ln → (Nat → Prop) → Prop
  inv : ∀ {w : World} {X : Nat} {s : Ln} {F : Nat → Prop}, At w X s F → Inv s
  lt : ∀ {w : World} {X : Nat} {s : Ln} {F : Nat → Prop}, At w X s F → ∀ g, F g → g < w.heap.size
  stay : ∀ {w w' : World} {X : Nat} {s : Ln} {F : Nat → Prop}, At w X s F → Stay F w w' → w.heap.size ≤ w'.heap.size → At w' X s F
  new : ∀ (a b : Int) (w : World), Calls Tryd.prog 4 #[.int .i64 a, .int .i64 b] w fun e w' => ((newE a b ≠ 0 ∧ e = .returned (.tuple #[.pointer none, errV (newE a b)])) ∨ (newE a b = 0 ∧ ∃ X F, e = .returned (.tuple #[ptr X, .nilIface]) ∧ At w' X (Ec.new a.toNat b.toNat) F ∧ ∀ g, F g → w.heap.size ≤ g)) ∧ Below w.heap.size w w'
  send : ∀ (X : Nat) (s : Ln) (F : Nat → Prop) (d : ByteArray) (w : World), At w X s F → Fit s → d.size ≤ maxLen → Calls Tryd.prog 6 #[ptr X, .string d] w fun e w' => e = .returned (errV (sendE s d)) ∧ ∃ F', At w' X (sendS s d) F' ∧ Chg F w w' ∧ ∀ g, F' g → F g ∨ w.heap.size ≤ g
  out : ∀ (X : Nat) (s : Ln) (F : Nat → Prop) (w : World), At w X s F → Fit s → Calls Tryd.prog 8 #[ptr X] w fun e w' => ∃ p n c F', e = .returned (.slice p n c) ∧ FrsJ (fun g => New w.heap.size w' g ∧ ¬ F' g) w' (.slice p n c) (outF s) ∧ At w' X (outS s) F' ∧ Chg F w w' ∧ ∀ g, F' g → F g ∨ w.heap.size ≤ g
  hear : ∀ (X : Nat) (s : Ln) (F : Nat → Prop) (a : Bool) (q : Int) (d : ByteArray) (w : World), At w X s F → Fit s → d.size ≤ maxLen → Calls Tryd.prog 12 #[ptr X, .agg #[.bool a, .int .i64 q, .string d]] w fun e w' => e = .returned (errV (hearE s (a, q, d))) ∧ ∃ F', At w' X (hearS s (a, q, d)) F' ∧ Chg F w w' ∧ ∀ g, F' g → F g ∨ w.heap.size ≤ g
  tick : ∀ (X : Nat) (s : Ln) (F : Nat → Prop) (w : World), At w X s F → Fit s → Calls Tryd.prog 10 #[ptr X] w fun e w' => (∃ v, e = .returned v) ∧ ∃ F', At w' X (Ec.tick s) F' ∧ Chg F w w' ∧ ∀ g, F' g → F g ∨ w.heap.size ≤ g
  got : ∀ (X : Nat) (s : Ln) (F : Nat → Prop) (w : World), At w X s F → Fit s → Calls Tryd.prog 14 #[ptr X] w fun e w' => ∃ p n c, e = .returned (.slice p n c) ∧ TxJ (New w.heap.size w') w' (.slice p n c) s.got ∧ Below w.heap.size w w'
  left : ∀ (X : Nat) (s : Ln) (F : Nat → Prop) (w : World), At w X s F → Fit s → Calls Tryd.prog 15 #[ptr X] w fun e w' => e = .returned (.int .i64 (Ec.left s)) ∧ Below w.heap.size w w'
theorem LinkSays.below (L : LinkSays) {w w' : World} {X : Nat} {s : Ln} {F : Nat → Prop} (h : L.At w X s F) (hb : Below w.heap.size w w') : L.At w' X s F := L.stay h (fun g hg => hb.block g (L.lt h g hg)) hb.size
theorem LinkSays.chg (L : LinkSays) {w w' : World} {X : Nat} {s : Ln} {F H : Nat → Prop} (h : L.At w X s F) (hc : Chg H w w') (hd : ∀ g, F g → ¬ H g) : L.At w' X s F := L.stay h (hc.stay fun g hg => ⟨L.lt h g hg, hd g hg⟩) hc.size

/- two ends side by side -/
structure Two (L : LinkSays) (B : Nat) (w : World) (X Y : Nat) (a b : Ln) (F G : Nat → Prop) : Prop where
  x : L.At w X a F
  y : L.At w Y b G
  off : ∀ g, F g → ¬ G g
  lx : ∀ g, F g → B ≤ g
  ly : ∀ g, G g → B ≤ g
theorem Two.below {L : LinkSays} {B : Nat} {w w' : World} {X Y : Nat} {a b : Ln} {F G : Nat → Prop} (h : Two L B w X Y a b F G) (hb : Below w.heap.size w w') : Two L B w' X Y a b F G := ⟨L.below h.x hb, L.below h.y hb, h.off, h.lx, h.ly⟩
theorem Two.set_x {L : LinkSays} {B : Nat} {w w' : World} {X Y : Nat} {a a' b : Ln} {F F' G : Nat → Prop} (h : Two L B w X Y a b F G) (hB : B ≤ w.heap.size) (hx : L.At w' X a' F') (hc : Chg F w w') (hf : ∀ g, F' g → F g ∨ w.heap.size ≤ g) : Two L B w' X Y a' b F' G :=
  ⟨hx, L.chg h.y hc (fun g h1 h2 => h.off g h2 h1), fun g h1 h2 => by
    rcases hf g h1 with e | e
    · exact h.off g e h2
    · have := L.lt h.y g h2; omega, fun g h1 => by
    rcases hf g h1 with e | e
    · exact h.lx g e
    · omega, h.ly⟩
theorem Two.set_y {L : LinkSays} {B : Nat} {w w' : World} {X Y : Nat} {a b b' : Ln} {F G G' : Nat → Prop} (h : Two L B w X Y a b F G) (hB : B ≤ w.heap.size) (hy : L.At w' Y b' G') (hc : Chg G w w') (hf : ∀ g, G' g → G g ∨ w.heap.size ≤ g) : Two L B w' X Y a b' F G' :=
  ⟨L.chg h.x hc h.off, hy, fun g h1 h2 => by
    rcases hf g h2 with e | e
    · exact h.off g h1 e
    · have := L.lt h.x g h1; omega, h.lx, fun g h1 => by
    rcases hf g h1 with e | e
    · exact h.ly g e
    · omega⟩

end Eg
end Go.Proofs.YtaicacnijlneaaaDoor
