/- LogKeeps' memory: the reference's docs, one for each op that was kept, and where their records end. -/
import Derived.Test.YtgefpcchcegcpaaGreatDoorTm
import Derived.Test.YtgefpcchcegcpaaGreatDoorTj
namespace Go.Proofs.YtgefpcchcegcpaaGreatDoor
namespace Tn
set_option linter.unusedVariables false
open Go.ChangeShapes Go.WideShapes Go.ChangeAt Go.RowKit Cm Ka Kb Na Om Oa Oz Oc Og Oi Hm Ia Ic Idc Ie Tg Th Tm Xp
open La (bel_drew errV_zero errV_ne own_ge own_grow own_below Lies)

abbrev Old (w : World) (g : Nat) : Prop := g < w.heap.size
def ptrs (Es : List Nat) : List Value := Es.map fun E => Value.pointer (some ⟨E, 0, none⟩)
def nums (l : List Nat) : List Value := l.map fun (n : Nat) => Value.int .i64 (n : Int)
/- docs and rows; F: the log's own blocks; G: the docs' -/
structure Dn (w wr : World) (ops : List Ox) (ends : List Nat) (F G : Nat → Prop) (Es : List Nat) (vd vm : Value) : Prop where
  len : Es.length = ops.length + 1
  len2 : ends.length = ops.length
  docs : ∀ i, i ≤ ops.length → ∃ Fi, RefAt (Old w) wr (Es.getD i 0) (st (ops.take i)) Fi ∧ ∀ g, Fi g → G g
  rd : wr.ownsRow w.heap.size 43 1 vd (ops.length + 1) (ptrs Es)
  rm : wr.ownsRow w.heap.size 3 1 vm (ops.length + 1) (nums (0 :: ends))
  gs : ∀ g, G g → w.heap.size ≤ g ∧ g < wr.heap.size ∧ ¬ F g
  rw' : ∀ g, (vd.ownBlock = some g ∨ vm.ownBlock = some g) → ¬ F g ∧ ¬ G g
  dm : ∀ g, vd.ownBlock = some g → vm.ownBlock ≠ some g
  bel : Below w.heap.size w wr
section
variable {w wr w' : World} {ops : List Ox} {ends : List Nat} {F F' G H : Nat → Prop} {Es : List Nat} {vd vm : Value}
/- other blocks are written -/
theorem Dn.chg (h : Dn w wr ops ends F G Es vd vm) (hc : Chg H wr w') (hH : ∀ g, H g → w.heap.size ≤ g ∧ ¬ G g ∧ vd.ownBlock ≠ some g ∧ vm.ownBlock ≠ some g) (hF : ∀ g, F' g → F g ∨ wr.heap.size ≤ g) : Dn w w' ops ends F' G Es vd vm := by
  refine ⟨h.len, h.len2, fun i hi => ?_, own_stay h.rd fun g hg => hc.block g (own_lt h.rd g hg).1 (fun e => (hH g e).2.2.1 hg), own_stay h.rm fun g hg => hc.block g (own_lt h.rm g hg).1 (fun e => (hH g e).2.2.2 hg), fun g hg => ?_, fun g hg => ?_, h.dm, hc.below (fun g e => (hH g e).1) h.bel h.bel.size⟩
  · obtain ⟨Fi, h1, h2⟩ := h.docs i hi
    refine ⟨Fi, h1.chg hc (fun g e1 e2 => ?_) (fun g e1 e2 => (hH g e2).2.1 (h2 g e1)), h2⟩
    have := (hH g e1).1
    have e3 : g < w.heap.size := e2
    omega
  · obtain ⟨g1, g2, g3⟩ := h.gs g hg
    refine ⟨g1, Nat.lt_of_lt_of_le g2 hc.size, fun e => ?_⟩
    rcases hF g e with e | e
    · exact g3 e
    · omega
  · obtain ⟨r1, r2⟩ := h.rw' g hg
    refine ⟨fun e => ?_, r2⟩
    rcases hF g e with e | e
    · exact r1 e
    · rcases hg with e2 | e2
      · have := (own_lt h.rd g e2).1; omega
      · have := (own_lt h.rm g e2).1; omega
theorem Dn.below (h : Dn w wr ops ends F G Es vd vm) (hb : Below wr.heap.size wr w') : Dn w w' ops ends F G Es vd vm :=
  h.chg (H := fun _ => False) (Chg.ofBelow hb _) (fun g e => e.elim) (fun g e => Or.inl e)
/- the log is written -/
theorem Dn.log (h : Dn w wr ops ends F G Es vd vm) (hc : Chg F wr w') (hlow : ∀ g, F g → w.heap.size ≤ g) (hF : ∀ g, F' g → F g ∨ wr.heap.size ≤ g) : Dn w w' ops ends F' G Es vd vm :=
  h.chg hc (fun g e => ⟨hlow g e, fun e2 => (h.gs g e2).2.2 e, fun e2 => (h.rw' g (Or.inl e2)).1 e, fun e2 => (h.rw' g (Or.inr e2)).1 e⟩) hF
/- blocks that are no one's are written (a doc that is no one of these yet) -/
theorem Dn.next (h : Dn w wr ops ends F G Es vd vm) (hc : Chg H wr w') (hH : ∀ g, H g → w.heap.size ≤ g ∧ ¬ G g ∧ vd.ownBlock ≠ some g ∧ vm.ownBlock ≠ some g) : Dn w w' ops ends F G Es vd vm :=
  h.chg hc hH (fun g e => Or.inl e)
/- one more -/
theorem Dn.push {o : Ox} {b E : Nat} {Fn : Nat → Prop} {vd' vm' : Value} (h : Dn w wr ops ends F G Es vd vm) (hd : ∀ i, i ≤ ops.length → ∃ Fi, RefAt (Old w) w' (Es.getD i 0) (st (ops.take i)) Fi ∧ ∀ g, Fi g → G g) (hn : RefAt (Old w) w' E (st (ops ++ [o])) Fn) (hrd : w'.ownsRow w.heap.size 43 1 vd' (ops.length + 1 + 1) (ptrs (Es ++ [E]))) (hrm : w'.ownsRow w.heap.size 3 1 vm' (ops.length + 1 + 1) (nums (0 :: (ends ++ [b]))))
    (hz : wr.heap.size ≤ w'.heap.size) (hfn : ∀ g, Fn g → w.heap.size ≤ g ∧ ¬ F g) (hr : ∀ g, (vd'.ownBlock = some g ∨ vm'.ownBlock = some g) → ¬ F g ∧ ¬ G g ∧ ¬ Fn g) (hdm : ∀ g, vd'.ownBlock = some g → vm'.ownBlock ≠ some g) (hb : Below w.heap.size w w') :
    Dn w w' (ops ++ [o]) (ends ++ [b]) F (fun g => G g ∨ Fn g) (Es ++ [E]) vd' vm' := by
  have hl := h.len
  refine ⟨by rw [List.length_append, List.length_append, hl]; rfl, by rw [List.length_append, List.length_append, h.len2]; rfl, fun i hi => ?_, by rw [List.length_append]; exact hrd, by rw [List.length_append]; exact hrm, fun g hg => ?_, fun g hg => ?_, hdm, hb⟩
  · rw [List.length_append] at hi
    have hi2 : i ≤ ops.length + 1 := hi
    rcases Nat.lt_or_ge ops.length i with e | e
    · have e2 : i = ops.length + 1 := by omega
      subst e2
      refine ⟨Fn, ?_, fun g hg => Or.inr hg⟩
      have e3 : (Es ++ [E]).getD (ops.length + 1) 0 = E := by rw [← hl, List.getD_eq_getElem?_getD, List.getElem?_append_right (Nat.le_refl _), Nat.sub_self]; rfl
      have e4 : (ops ++ [o]).take (ops.length + 1) = ops ++ [o] := List.take_of_length_le (by rw [List.length_append]; exact Nat.le_refl _)
      rw [e3, e4]; exact hn
    · obtain ⟨Fi, h1, h2⟩ := hd i e
      refine ⟨Fi, ?_, fun g hg => Or.inl (h2 g hg)⟩
      have e3 : (Es ++ [E]).getD i 0 = Es.getD i 0 := by rw [List.getD_eq_getElem?_getD, List.getD_eq_getElem?_getD, List.getElem?_append_left (by omega)]
      have e4 : (ops ++ [o]).take i = ops.take i := by rw [List.take_append_of_le_length e]
      rw [e3, e4]; exact h1
  · rcases hg with e | e
    · obtain ⟨g1, g2, g3⟩ := h.gs g e
      exact ⟨g1, by omega, g3⟩
    · exact ⟨(hfn g e).1, (hn.lt g e).2, (hfn g e).2⟩
  · obtain ⟨r1, r2, r3⟩ := hr g hg
    exact ⟨r1, fun e => by rcases e with e | e; exact r2 e; exact r3 e⟩
theorem own_some {w : World} {base : Nat} {t : TypeId} {v : Value} {n : Nat} {xs : List Value} (h : w.ownsRow base t 1 v n xs) (hn : 0 < n) : ∃ g c, v = .slice (some ⟨g, 0, none⟩) n c ∧ n ≤ c ∧ c ≤ maxLen := by
  rcases h.2 with ⟨e, e0⟩ | ⟨g, cap, cur, e, _, _, h1, h2, _⟩
  · omega
  · exact ⟨g, cap, e, h1, h2⟩
theorem own_cut {w : World} {base : Nat} {t : TypeId} {g n c k : Nat} {xs : List Value} (h : w.ownsRow base t 1 (.slice (some ⟨g, 0, none⟩) n c) n xs) (hk : k ≤ n) : w.ownsRow base t 1 (.slice (some ⟨g, 0, none⟩) k c) k (xs.take k) := by
  refine ⟨?_, ?_⟩
  · rw [List.length_take, h.1, Nat.mul_one, Nat.mul_one]; omega
  · rcases h.2 with ⟨e, _⟩ | ⟨g', cap, cur, e, h1, h2, h3, h4, h5, h6⟩
    · cases e
    · injection e with e1 e2 e3
      injection e1 with e1
      injection e1 with e1 _
      subst e1 e3
      refine Or.inr ⟨g, c, cur, rfl, h1, h2, by omega, h4, h5, ?_⟩
      rw [← h6, Nat.mul_one, Nat.mul_one, List.take_take, Nat.min_eq_left hk]
/- the first k alone -/
theorem Dn.cut {gd cd gm cm k : Nat} (h : Dn w wr ops ends F G Es (.slice (some ⟨gd, 0, none⟩) (ops.length + 1) cd) (.slice (some ⟨gm, 0, none⟩) (ops.length + 1) cm)) (hk : k ≤ ops.length) :
    Dn w wr (ops.take k) (ends.take k) F G (Es.take (k + 1)) (.slice (some ⟨gd, 0, none⟩) (k + 1) cd) (.slice (some ⟨gm, 0, none⟩) (k + 1) cm) := by
  have hl := h.len
  have hlk : (ops.take k).length = k := by rw [List.length_take]; omega
  refine ⟨by rw [List.length_take, hlk, hl]; omega, by rw [List.length_take, List.length_take, h.len2], fun i hi => ?_, ?_, ?_, h.gs, h.rw', h.dm, h.bel⟩
  · rw [hlk] at hi
    obtain ⟨Fi, h1, h2⟩ := h.docs i (by omega)
    refine ⟨Fi, ?_, h2⟩
    rw [List.take_take, Nat.min_eq_left hi]
    have e3 : (Es.take (k + 1)).getD i 0 = Es.getD i 0 := by rw [List.getD_eq_getElem?_getD, List.getD_eq_getElem?_getD, List.getElem?_take_of_lt (by omega)]
    rw [e3]; exact h1
  · rw [hlk]
    have h9 := own_cut h.rd (k := k + 1) (by omega)
    unfold ptrs at h9 ⊢
    rw [List.map_take]; exact h9
  · rw [hlk]
    have h9 := own_cut h.rm (k := k + 1) (by omega)
    unfold nums at h9 ⊢
    rw [show 0 :: ends.take k = (0 :: ends).take (k + 1) from rfl, List.map_take]; exact h9
end

end Tn
end Go.Proofs.YtgefpcchcegcpaaGreatDoor
