/- A book that lies in memory, three cells a leaf. -/
import Derived.Test.YtcmoajlcmeimiaaDoorBm
import Derived.Test.YtcmoajlcmeimiaaDoorKb
import Derived.OwnWalk
import Derived.Laws.OwnMore
import Derived.Maps.AppendAt
namespace Go.Proofs.YtcmoajlcmeimiaaDoor
namespace La
set_option linter.unusedVariables false
open Go.ChangeShapes Go.WideShapes Go.ChangeAt Go.RowKit Bm Ka Kb

theorem errV_zero : errV 0 = .nilIface := rfl
theorem errV_ne {n : Int} (h : n ≠ 0) : errV n = .iface 74 (.int .i64 n) := by unfold errV; rw [if_neg h]
theorem bel {w w1 w2 : World} (h1 : Below w.heap.size w w1) (h2 : Below w1.heap.size w1 w2) : Below w.heap.size w w2 :=
  h1.trans (h2.mono h1.size)
theorem bel_drew {B : Nat} {a w : World} (h : Below B a w) (q : Nat) : Below B a (w.drewN q) := ⟨h.os, h.tape, h.output, h.size, h.block⟩

def aggL (x : Leaf) : Value := .agg #[.string x.1, .int .i64 x.2.1, .bool x.2.2]
def cells3 (x : Leaf) : List Value := [.string x.1, .int .i64 x.2.1, .bool x.2.2]
def flat (l : List Leaf) : List Value := l.flatMap cells3
theorem flat_append (a b : List Leaf) : flat (a ++ b) = flat a ++ flat b := by unfold flat; rw [List.flatMap_append]
theorem flat_length : ∀ l : List Leaf, (flat l).length = l.length * 3
  | [] => rfl
  | x :: l => by
    have := flat_length l
    unfold flat at this ⊢
    rw [List.flatMap_cons, List.length_append, this]
    simp [cells3]; omega
theorem flat_at : ∀ {l : List Leaf} {j : Nat} (hj : j < l.length), (flat l)[j * 3]? = some (.string (l.getD j none0).1) ∧ (flat l)[j * 3 + 1]? = some (.int .i64 (l.getD j none0).2.1) ∧ (flat l)[j * 3 + 2]? = some (.bool (l.getD j none0).2.2)
  | [], j, hj => absurd hj (by simp)
  | x :: l, 0, _ => ⟨rfl, rfl, rfl⟩
  | x :: l, j + 1, hj => by
    have h := flat_at (l := l) (j := j) (by simpa using hj)
    have e : ∀ i, (flat (x :: l))[i + 3]? = (flat l)[i]? := fun i => by
      unfold flat
      rw [List.flatMap_cons, List.getElem?_append_right (by simp [cells3])]
      simp [cells3]
    rw [show (j + 1) * 3 = j * 3 + 3 by omega, show j * 3 + 3 + 1 = j * 3 + 1 + 3 by omega, show j * 3 + 3 + 2 = j * 3 + 2 + 3 by omega, e, e, e]
    exact h

/- leaf j of a book at b, o -/
def At (w : World) (b o j : Nat) (x : Leaf) : Prop := w.cell? ⟨b, o + j * 3, none⟩ = some (.string x.1) ∧ w.cell? ⟨b, o + j * 3 + 1, none⟩ = some (.int .i64 x.2.1) ∧ w.cell? ⟨b, o + j * 3 + 2, none⟩ = some (.bool x.2.2)
def LeafsIn (w : World) (p : Option Addr) (l : List Leaf) : Prop :=
  l = [] ∨ ∃ b o, p = some ⟨b, o, none⟩ ∧ ∀ j, j < l.length → At w b o j (l.getD j none0)
theorem At.below {w w' : World} {b o j : Nat} {x : Leaf} {B : Nat} (h : At w b o j x) (hb : Below B w w') (hB : b < B) : At w' b o j x :=
  ⟨(hb.cell (p := ⟨b, o + j * 3, none⟩) hB).trans h.1, (hb.cell (p := ⟨b, o + j * 3 + 1, none⟩) hB).trans h.2.1, (hb.cell (p := ⟨b, o + j * 3 + 2, none⟩) hB).trans h.2.2⟩
theorem At.lt {w : World} {b o j : Nat} {x : Leaf} (h : At w b o j x) : b < w.heap.size := World.block_lt_of_cell? _ ⟨b, o + j * 3, none⟩ h.1
theorem LeafsIn.below {w w' : World} {p : Option Addr} {l : List Leaf} (h : LeafsIn w p l) (hb : Below w.heap.size w w') : LeafsIn w' p l := by
  rcases h with h | ⟨b, o, hp, hc⟩
  · exact Or.inl h
  · exact Or.inr ⟨b, o, hp, fun j hj => (hc j hj).below hb (hc j hj).lt⟩
theorem LeafsIn.nil (w : World) (p : Option Addr) : LeafsIn w p [] := Or.inl rfl
theorem LeafsIn.some {w : World} {p : Option Addr} {l : List Leaf} (h : LeafsIn w p l) (hl : l ≠ []) : ∃ b o, p = some ⟨b, o, none⟩ ∧ ∀ j, j < l.length → At w b o j (l.getD j none0) := by
  rcases h with h | h
  · exact absurd h hl
  · exact h
theorem at_flat {w : World} {b o : Nat} {l : List Leaf} (h : ∀ j, j < l.length → At w b o j (l.getD j none0)) : ∀ j u, (flat l)[j]? = some u → w.cell? ⟨b, o + j, none⟩ = some u := by
  intro j u hu
  have hj : j < l.length * 3 := by rw [← flat_length]; exact (List.getElem?_eq_some_iff.1 hu).1
  have hq : j / 3 < l.length := by omega
  have hc := h (j / 3) hq
  have hf := flat_at hq
  have hm : j = j / 3 * 3 + j % 3 := by omega
  have h3 : j % 3 = 0 ∨ j % 3 = 1 ∨ j % 3 = 2 := by omega
  rcases h3 with e | e | e
  · rw [e, Nat.add_zero] at hm
    rw [← hm] at hf
    rw [hf.1] at hu
    injection hu with hu
    rw [← hu]
    have := hc.1
    rwa [← hm] at this
  · rw [e] at hm
    rw [← hm] at hf
    rw [hf.2.1] at hu
    injection hu with hu
    rw [← hu]
    have := hc.2.1
    rwa [show o + j / 3 * 3 + 1 = o + (j / 3 * 3 + 1) by omega, ← hm] at this
  · rw [e] at hm
    rw [← hm] at hf
    rw [hf.2.2] at hu
    injection hu with hu
    rw [← hu]
    have := hc.2.2
    rwa [show o + j / 3 * 3 + 2 = o + (j / 3 * 3 + 2) by omega, ← hm] at this
theorem flat_one (l : List Leaf) : ∀ u ∈ flat l, u.oneCell' = true := by
  intro u hu
  unfold flat at hu
  obtain ⟨x, _, hx⟩ := List.mem_flatMap.1 hu
  simp only [cells3, List.mem_cons, List.not_mem_nil, or_false] at hx
  rcases hx with rfl | rfl | rfl <;> rfl
/- a row of the call's own, as a book -/
theorem own_book {w : World} {base : Nat} {t : TypeId} {v : Value} {n : Nat} {l : List Leaf} (h : w.ownsRow base t 3 v n (flat l)) : l.length = n ∧ ∃ p c, v = .slice p n c ∧ LeafsIn w p l := by
  have hn : l.length = n := by have := h.1; rw [flat_length] at this; omega
  refine ⟨hn, ?_⟩
  rcases h.2 with ⟨rfl, h0⟩ | ⟨g, cap, cur, rfl, _, h2, h3, h4, h5, h6⟩
  · subst h0
    exact ⟨none, 0, rfl, Or.inl (List.eq_nil_of_length_eq_zero hn)⟩
  · refine ⟨some ⟨g, 0, none⟩, cap, rfl, Or.inr ⟨g, 0, rfl, fun j hj => ?_⟩⟩
    have hf := flat_at hj
    have key : ∀ i u, (flat l)[i]? = some u → w.cell? ⟨g, 0 + i, none⟩ = some u := by
      intro i u hu
      have hi : i < n * 3 := by rw [← hn, ← flat_length]; exact (List.getElem?_eq_some_iff.1 hu).1
      rw [← h6, List.getElem?_take_of_lt hi] at hu
      rw [Nat.zero_add]
      simp only [World.cell?, h2]
      simpa using hu
    refine ⟨key _ _ hf.1, ?_, ?_⟩
    · have := key _ _ hf.2.1; rwa [show 0 + (j * 3 + 1) = 0 + j * 3 + 1 by omega] at this
    · have := key _ _ hf.2.2; rwa [show 0 + (j * 3 + 2) = 0 + j * 3 + 2 by omega] at this
theorem own_ge {w : World} {base : Nat} {t : TypeId} {z : Nat} {v : Value} {n : Nat} {xs : List Value} (h : w.ownsRow base t z v n xs) : ∀ k, v.ownBlock = some k → base ≤ k := fun k hk => (h.lt k hk).1
theorem own_grow {w wr w1 w2 : World} {base : Nat} {t : TypeId} {z : Nat} {v : Value} {n : Nat} {xs : List Value} (h : wr.ownsRow base t z v n xs) (hb : Below base w w1) (hg : w1.grownBy w2 v.ownBlock) (hB : base ≤ w1.heap.size) : Below base w w2 :=
  hb.grown hg hB (fun k hk => own_ge h k hk)

theorem own_below {w w2 : World} {base : Nat} {t : TypeId} {z : Nat} {v : Value} {n : Nat} {xs : List Value} (h : w.ownsRow base t z v n xs) (hb : Below w.heap.size w w2) : w2.ownsRow base t z v n xs := by
  refine ⟨h.1, ?_⟩
  rcases h.2 with h0 | ⟨g, cap, cur, h1, h2, h3, h4⟩
  · exact Or.inl h0
  · refine Or.inr ⟨g, cap, cur, h1, h2, ?_, h4⟩
    have hg : g < w.heap.size := by
      rcases Nat.lt_or_ge g w.heap.size with e | e
      · exact e
      · rw [Array.getElem?_eq_none e] at h3; cases h3
    rw [hb.block g hg]; exact h3

/- where a slice lies: from block B on, or it is empty -/
def Lies (B : Nat) (v : Value) : Prop := ∀ (a : Addr) (n c : Nat), v = .slice (some a) n c → 0 < n → B ≤ a.block
theorem Lies.nil (B : Nat) : Lies B (.slice none 0 0) := fun a n c h => by cases h
theorem Lies.at {B g o n c : Nat} (h : B ≤ g) : Lies B (.slice (some ⟨g, o, none⟩) n c) := fun a m d e _ => by injection e with e1; injection e1 with e1; rw [← e1]; exact h
theorem Lies.mono {B C : Nat} {v : Value} (h : Lies B v) (hC : C ≤ B) : Lies C v := fun a n c e hn => Nat.le_trans hC (h a n c e hn)
theorem Lies.own {w : World} {base : Nat} {t : TypeId} {z : Nat} {v : Value} {n : Nat} {xs : List Value} (h : w.ownsRow base t z v n xs) : Lies base v := fun a m c e _ => own_ge h a.block (by rw [e]; rfl)

end La
end Go.Proofs.YtcmoajlcmeimiaaDoor
