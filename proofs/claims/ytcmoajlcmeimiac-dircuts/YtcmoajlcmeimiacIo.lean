/- The walk of DocOnce. -/
import Derived.Test.YtcmoajlcmeimiacJ13
import Derived.Test.YtcmoajlcmeimiacJ6
namespace Go.Proofs.Ytcmoajlcmeimiac
namespace Io
set_option linter.unusedVariables false
open Go.ChangeShapes Go.WideShapes Go.ChangeAt Go.RowKit Cm Ka Kb Na Om Oa Oz Oc Og Oi Hm Ia Ib Ic Idc Ie If Ig Ih Ii Ij Ik Il Im
open La (bel bel_drew errV_zero errV_ne own_ge own_grow own_below Lies)
open Lj (BookAt BookNew)

def nb : ByteArray := ⟨#[110, 98]⟩
def o1 : Ox := ((1, 1), 1, nb, 104, [])
def d1 : Dq := apS d0 o1
theorem new1 : isNew d0 o1 = true := by kernel_rfl
theorem ap1 : apE d0 o1 = 0 := by kernel_rfl
theorem new2 : isNew d1 o1 = false := by kernel_rfl
theorem ap2 : apE d1 o1 = 0 := by kernel_rfl
theorem same2 : apS d1 o1 = d1 := by unfold apS; rw [new2]; rfl
theorem text1 : Lf.textR d1.book = ⟨#[104]⟩ := by kernel_rfl

/- ops that are applied one behind the other -/
def run (l : List Ox) (k : Nat) : Dq := (l.take k).foldl apS d0
theorem run_zero (l : List Ox) : run l 0 = d0 := rfl
theorem run_next {l : List Ox} {k : Nat} (hk : k < l.length) : run l (k + 1) = apS (run l k) (l.getD k oz) := by
  unfold run; rw [Im.take_next hk, List.foldl_append]; rfl
theorem run_inv (l : List Ox) (k : Nat) : Inv (run l k) := by
  unfold run
  generalize l.take k = m
  suffices h : ∀ (m : List Ox) (S : Dq), Inv S → Inv (m.foldl apS S) from h m d0 inv_zero
  intro m
  induction m with
  | nil => intro S h; exact h
  | cons o m ih => intro S h; exact ih _ (inv_ap h)
theorem run_ord (l : List Ox) (k : Nat) : Ord (run l k) := by
  unfold run
  generalize l.take k = m
  suffices h : ∀ (m : List Ox) (S : Dq), Inv S → Ord S → Ord (m.foldl apS S) from h m d0 inv_zero ord_zero
  intro m
  induction m with
  | nil => intro S _ h; exact h
  | cons o m ih => intro S h h2; exact ih _ (inv_ap h) (ord_ap h h2)
theorem run_known (l : List Ox) (k : Nat) {x : Ox} (hx : x ∈ (run l k).ops) : apE (run l k) x = 0 ∧ isNew (run l k) x = false ∧ apS (run l k) x = run l k :=
  ap_known ((run_inv l k).right x hx) (known_mem (run_inv l k) (run_ord l k) x hx)

theorem six_off {w w' : World} {h : Nat} {a b t : Int} {p : ByteArray} {c : Int} {v : Value} {F : Nat → Prop} (s : Six w h a b t p c v) (hc : Chg F w w') (hf : ¬ F h) : Six w' h a b t p c v := six_same s (hc.block h (six_lt s) hf)
/- the places of a list of numbers -/
def IntsAt (w : World) (v : Value) (l : List Int) : Prop := ∃ p c, v = .slice p l.length c ∧ Za.IntsIn w p l
theorem IntsAt.below {w w' : World} {v : Value} {l : List Int} (h : IntsAt w v l) (hb : Below w.heap.size w w') : IntsAt w' v l := by
  obtain ⟨p, c, h1, h2⟩ := h
  exact ⟨p, c, h1, h2.below hb⟩
/- ops that came in stay below, and lie off a doc that lies above -/
theorem off_old {w : World} {v : Value} {l : List Dt} {F : Nat → Prop} (h : DtsAt w v l) (hF : ∀ g, F g → w.heap.size ≤ g) : In (fun g => ¬ F g) v := fun a n c e hn hf => by
  obtain ⟨q, c2, hv, hin, _⟩ := h
  rw [e] at hv
  injection hv with e1 e2 e3
  rcases hin with e0 | ⟨bb, oo, hp9, hcs⟩
  · rw [e0] at e2; simp at e2; omega
  · rw [hp9] at e1
    injection e1 with e1
    rw [e1] at hf
    have := hF _ hf
    have := (hcs 0 (by omega)).lt
    simp only at *
    omega

end Io
end Go.Proofs.Ytcmoajlcmeimiac
