/- What the laws ask of package cache: a cache in memory, and each call's answer, at all inputs. -/
import Derived.Test.YtekmdkfbdcamdaaDoorEf
import Derived.Test.YtekmdkfbdcamdaaDoorFb
namespace Go.Proofs.YtekmdkfbdcamdaaDoor
namespace Fc
set_option linter.unusedVariables false
open Go.ChangeShapes Go.WideShapes Go.ChangeAt Go.RowKit Ka Kb Ef

abbrev ptr (X : Nat) : Value := .pointer (some ⟨X, 0, none⟩)
/- few texts, a budget that New takes -/
def Fit (b : Nat) (m : List Fb.Kp) : Prop := b ≤ 10000 ∧ m.length ≤ 1000
structure CacheSays where
  At : World → Nat → Nat → List Fb.Kp → (Nat → Prop) → Prop
  inv : ∀ {w : World} {X b : Nat} {m : List Fb.Kp} {F : Nat → Prop}, At w X b m F → Fb.Inv b m
  lt : ∀ {w : World} {X b : Nat} {m : List Fb.Kp} {F : Nat → Prop}, At w X b m F → ∀ g, F g → g < w.heap.size
  stay : ∀ {w w' : World} {X b : Nat} {m : List Fb.Kp} {F : Nat → Prop}, At w X b m F → Stay F w w' → w.heap.size ≤ w'.heap.size → At w' X b m F
  new : ∀ (b : Int) (w : World), Calls Tryd.prog 5 #[.int .i64 b] w fun e w' => ((Fb.newE b ≠ 0 ∧ e = .returned (.tuple #[.pointer none, errV (Fb.newE b)])) ∨ (Fb.newE b = 0 ∧ ∃ X F, e = .returned (.tuple #[ptr X, .nilIface]) ∧ At w' X b.toNat [] F ∧ ∀ g, F g → w.heap.size ≤ g)) ∧ Below w.heap.size w w'
  load : ∀ (X b : Nat) (m : List Fb.Kp) (F : Nat → Prop) (p s : ByteArray) (w : World), At w X b m F → Fit b m → p.size ≤ maxLen → s.size ≤ maxLen → Calls Tryd.prog 6 #[ptr X, .string p, .string s] w fun e w' => e = .returned (errV (Fb.loadE b p s)) ∧ ∃ F', At w' X b (Fb.loadS b p s m) F' ∧ Chg F w w' ∧ ∀ g, F' g → F g ∨ w.heap.size ≤ g
  get : ∀ (X b : Nat) (m : List Fb.Kp) (F : Nat → Prop) (p : ByteArray) (w : World), At w X b m F → Fit b m → p.size ≤ maxLen → Calls Tryd.prog 7 #[ptr X, .string p] w fun e w' => e = .returned (.tuple #[.string ((Fb.get? p m).getD Fb.e0), errV (Fb.getE p m)]) ∧ ∃ F', At w' X b (Fb.getS p m) F' ∧ Chg F w w' ∧ ∀ g, F' g → F g ∨ w.heap.size ≤ g
  places : ∀ (X b : Nat) (m : List Fb.Kp) (F : Nat → Prop) (w : World), At w X b m F → Fit b m → Calls Tryd.prog 8 #[ptr X] w fun e w' => ∃ p n c, e = .returned (.slice p n c) ∧ TxJ (New w.heap.size w') w' (.slice p n c) (Fb.names m) ∧ Below w.heap.size w w'
  used : ∀ (X b : Nat) (m : List Fb.Kp) (F : Nat → Prop) (w : World), At w X b m F → Fit b m → Calls Tryd.prog 10 #[ptr X] w fun e w' => e = .returned (.int .i64 (Fb.used m)) ∧ Below w.heap.size w w'
theorem CacheSays.below (L : CacheSays) {w w' : World} {X b : Nat} {m : List Fb.Kp} {F : Nat → Prop} (h : L.At w X b m F) (hb : Below w.heap.size w w') : L.At w' X b m F := L.stay h (fun g hg => hb.block g (L.lt h g hg)) hb.size
theorem CacheSays.chg (L : CacheSays) {w w' : World} {X b : Nat} {m : List Fb.Kp} {F H : Nat → Prop} (h : L.At w X b m F) (hc : Chg H w w') (hd : ∀ g, F g → ¬ H g) : L.At w' X b m F := L.stay h (hc.stay fun g hg => ⟨L.lt h g hg, hd g hg⟩) hc.size
theorem new_ok (L : CacheSays) (b : Int) (w : World) (h : Fb.newE b = 0) : Calls Tryd.prog 5 #[.int .i64 b] w fun e w' => ∃ X F, e = .returned (.tuple #[ptr X, .nilIface]) ∧ L.At w' X b.toNat [] F ∧ (∀ g, F g → w.heap.size ≤ g) ∧ Below w.heap.size w w' := by
  refine (L.new b w).mono ?_
  rintro e w' ⟨h1 | ⟨_, X, F, h2, h3, h4⟩, hb⟩
  · exact absurd h h1.1
  · exact ⟨X, F, h2, h3, h4, hb⟩
theorem new_no (L : CacheSays) (b : Int) (w : World) (h : b < 1 ∨ 10000 < b) : Calls Tryd.prog 5 #[.int .i64 b] w fun e w' => e = .returned (.tuple #[.pointer none, .iface 48 (.int .i64 1)]) ∧ Below w.heap.size w w' := by
  have e1 : Fb.newE b = 1 := by unfold Fb.newE; rw [if_pos h]
  refine (L.new b w).mono ?_
  rintro e w' ⟨h1 | h1, hb⟩
  · rw [e1, errV_ne (by decide)] at h1
    exact ⟨h1.2, hb⟩
  · rw [e1] at h1; exact absurd h1.1 (by decide)
/- one cache, from block B on -/
structure Cc (L : CacheSays) (w0 w : World) (X b : Nat) (m : List Fb.Kp) (F : Nat → Prop) : Prop where
  at' : L.At w X b m F
  low : ∀ g, F g → w0.heap.size ≤ g
  bel : Below w0.heap.size w0 w
theorem Cc.below {L : CacheSays} {w0 w w' : World} {X b : Nat} {m : List Fb.Kp} {F : Nat → Prop} (h : Cc L w0 w X b m F) (hb : Below w.heap.size w w') : Cc L w0 w' X b m F := ⟨L.below h.at' hb, h.low, Ef.bel h.bel hb⟩
theorem Cc.set {L : CacheSays} {w0 w w' : World} {X b : Nat} {m m' : List Fb.Kp} {F : Nat → Prop} (h : Cc L w0 w X b m F) (hl : ∃ F', L.At w' X b m' F' ∧ Chg F w w' ∧ ∀ g, F' g → F g ∨ w.heap.size ≤ g) : ∃ F', Cc L w0 w' X b m' F' := by
  obtain ⟨F', h1, h2, h3⟩ := hl
  refine ⟨F', h1, fun g e => ?_, h2.below h.low h.bel h.bel.size⟩
  rcases h3 g e with e | e
  · exact h.low g e
  · have := h.bel.size; omega
/- texts that lie apart from the cache stay while it is written -/
theorem txt_stay {R : Nat → Prop} {w w' : World} {v : Value} {l : List ByteArray} {F : Nat → Prop} (h : TxJ R w v l) (hR : ∀ g, R g → g < w.heap.size ∧ ¬ F g) (hc : Chg F w w') : TxJ R w' v l := h.stay (hc.stay hR)

end Fc
end Go.Proofs.YtekmdkfbdcamdaaDoor
