/- CacheKeeps' mathematics: three texts, of which two have room. -/
import Derived.Test.YtekmdkfbdcamdaaDoorFb
import Derived.Test.YtekmdkfbdcamdaaDoorEf
namespace Go.Proofs.YtekmdkfbdcamdaaDoor
namespace Fdd
set_option linter.unusedVariables false
open Fb

def bb : ByteArray := ⟨#[98, 98]⟩
def cb : ByteArray := ⟨#[99, 98]⟩
def db : ByteArray := ⟨#[100, 98]⟩
theorem ne1 : bb ≠ cb := by decide
theorem ne2 : bb ≠ db := by decide
theorem ne3 : cb ≠ db := by decide
theorem okE {b : Nat} {t : ByteArray} (h : t.size ≤ b) : loadE b bb t = 0 ∧ loadE b cb t = 0 ∧ loadE b db t = 0 := by
  have h1 : Pm.chk bb.toList = 0 := by kernel_rfl
  have h2 : Pm.chk cb.toList = 0 := by kernel_rfl
  have h3 : Pm.chk db.toList = 0 := by kernel_rfl
  unfold loadE
  rw [if_neg (fun e => e.2 h1), if_neg (by omega), if_neg (fun e => e.2 h2), if_neg (fun e => e.2 h3)]
  exact ⟨rfl, rfl, rfl⟩
theorem loadS_ok {b : Nat} {p t : ByteArray} {m : List Kp} (h : loadE b p t = 0) : loadS b p t m = loadC b p t m := by
  unfold loadS; rw [if_neg (by simpa using h)]
theorem load1 {b : Nat} {p t : ByteArray} (h : t.size ≤ b) : loadC b p t [] = [(p, t)] := by
  show trim b [(p, t)] = [(p, t)]
  exact trim_id (by simp [used]; exact h)
theorem load2 {b : Nat} {p q t : ByteArray} (hpq : p ≠ q) (h : 2 * t.size ≤ b) : loadC b q t [(p, t)] = [(p, t), (q, t)] := by
  unfold loadC
  rw [off_none (by simp [names]; exact fun e => hpq e.symm)]
  exact trim_id (by simp [used]; omega)
theorem load3 {b : Nat} {p q r t : ByteArray} (h1 : p ≠ r) (h2 : q ≠ r) (hb : b = 2 * t.size) (ht : 1 ≤ t.size) : loadC b r t [(p, t), (q, t)] = [(q, t), (r, t)] := by
  unfold loadC
  rw [off_none (by simp [names]; exact ⟨fun e => h1 e.symm, fun e => h2 e.symm⟩)]
  show trim b [(p, t), (q, t), (r, t)] = _
  rw [trim, if_pos (by simp [used]; omega)]
  exact trim_id (by simp [used]; omega)
theorem get1 {p q t : ByteArray} (h : p ≠ q) : get? p [(p, t), (q, t)] = some t ∧ getS p [(p, t), (q, t)] = [(q, t), (p, t)] :=
  get_first (x := (p, t)) (m := [(q, t)]) (by simp [names]; exact h)
theorem get2 {p q t : ByteArray} (h : p ≠ q) : get? q [(p, t), (q, t)] = some t ∧ getS q [(p, t), (q, t)] = [(p, t), (q, t)] := by
  have e : get? q [(p, t), (q, t)] = some t := by simp [get?, h]
  refine ⟨e, ?_⟩
  unfold getS
  rw [e]
  simp [off, h]
theorem gone {p q r t : ByteArray} (h1 : q ≠ p) (h2 : r ≠ p) : getE p [(q, t), (r, t)] = 5 := by
  unfold getE
  rw [if_pos (by simp [get?, h1, h2])]

end Fdd
end Go.Proofs.YtekmdkfbdcamdaaDoor
