/- One step of a row of places. No program is named here. -/
import Derived.Test.YtekcjhembcdgfaaDoorPu
namespace Go.Proofs.YtekcjhembcdgfaaDoor
namespace Pm
open Op (bytesLess)

theorem step_up {p : List UInt8} {who : Int} (hw : isWho who = true) (hp : p = [] ∨ chk p = 0) (h : betErr p [] who = 0) :
    chk (betText p [] who) = 0 ∧ (p = [] → (betText p [] who).length ≤ 2) ∧ (p ≠ [] → (betText p [] who).length ≤ p.length + 1) ∧ (bytesLess (betText p [] who) p || betText p [] who == p) = false := by
  obtain ⟨t, m, ht, hr, hrl, hmade, _⟩ := made_of h
  refine ⟨by rw [ht]; exact chk_made hmade, ?_, ?_, by rw [ht]; exact above_made hmade _⟩
  · intro e; subst e; exact (row_first hw).2
  · intro hne
    have hc : chk p = 0 := by rcases hp with e | e; exact absurd e hne; exact e
    have h2 := (chk_parts hc).1
    exact (found_len h (fun _ => up_short hc) (by omega)).1

theorem step_down {p : List UInt8} {who : Int} (hw : isWho who = true) (hp : p = [] ∨ chk p = 0) (h : betErr [] p who = 0) :
    chk (betText [] p who) = 0 ∧ (p = [] → (betText [] p who).length ≤ 2) ∧ (p ≠ [] → (betText [] p who).length ≤ p.length + 1) ∧ (p ≠ [] → bytesLess (betText [] p who) p = true) := by
  obtain ⟨t, m, ht, hr, hrl, hmade, _⟩ := made_of h
  refine ⟨by rw [ht]; exact chk_made hmade, ?_, ?_, ?_⟩
  · intro e; subst e; exact (row_first hw).2
  · intro hne
    have hc : chk p = 0 := by rcases hp with e | e; exact absurd e hne; exact e
    have h2 := (chk_parts hc).1
    exact (found_len h (fun _ => down_short hc) (by omega)).1
  · intro hne
    rw [ht]; exact below_made hmade _ (by cases p; exact absurd rfl hne; rfl)

theorem err8 {a b : List UInt8} {who : Int} (hw : isWho who = true) (hs : sides a b = 0) (h : betErr a b who ≠ 0) : betErr a b who = 8 := by
  rcases betErr_free hw hs with h2 | h2
  · exact absurd h2 h
  · exact h2

end Pm
end Go.Proofs.YtekcjhembcdgfaaDoor
