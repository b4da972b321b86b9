import Derived.Test.YtllcmfbkingfdaaDoorJ2
import Derived.Lib.AppendZeros
import Derived.Deep.RegionWith
import Derived.RegionTactic
import Derived.BigRegion
import Derived.Deep.Strs
import Derived.ChangeOld
import Derived.Carry
/- What slices.Clone, slices.Grow and slices.Concat answer, of leafs. -/
namespace Go.Proofs.YtllcmfbkingfdaaDoor
namespace Lh
set_option linter.unusedVariables false
open Go.ChangeShapes Go.WideShapes Go.ChangeAt Go.RowKit Bm Ka Kb La Lb Lc Ld Le Lf Lg

theorem infoLeaf : (Tryd.prog.info? 66).map (fun i => (i.zero, i.size, i.bytes)) = some (some (.agg #[.string ⟨#[]⟩, .int .i64 0, .bool false]), 3, 32) := by kernel_rfl

/- leafs that lie behind a slice's address -/
def Part (w : World) (v : Value) (l : List Leaf) : Prop := (v = .slice none 0 0 ∧ l = []) ∨ ∃ ad c, v = .slice (some ad) l.length c ∧ ∀ i u, (flat l)[i]? = some u → w.cell? (ad.add i) = some u
theorem Part.below {w w' : World} {v : Value} {l : List Leaf} (h : Part w v l) (hb : Below w.heap.size w w') : Part w' v l := by
  rcases h with h | ⟨ad, c, h1, h2⟩
  · exact Or.inl h
  · exact Or.inr ⟨ad, c, h1, fun i u hu => (hb.cell (World.block_lt_of_cell? _ _ (h2 i u hu))).trans (h2 i u hu)⟩
theorem Part.len {w : World} {v : Value} {l : List Leaf} (h : Part w v l) : ∃ p c, v = .slice p l.length c := by
  rcases h with ⟨rfl, rfl⟩ | ⟨ad, c, rfl, _⟩
  · exact ⟨none, 0, rfl⟩
  · exact ⟨some ad, c, rfl⟩
theorem LeafsIn.part {w : World} {b o : Nat} {l : List Leaf} (c : Nat) (h : ∀ j, j < l.length → At w b o j (l.getD j none0)) : Part w (.slice (some ⟨b, o, none⟩) l.length c) l :=
  Or.inr ⟨_, c, rfl, fun i u hu => by rw [Addr.add_lit]; exact at_flat h i u hu⟩

def cat (L : Nat → List Leaf) (k : Nat) : List Leaf := (List.range k).flatMap L
theorem cat_succ (L : Nat → List Leaf) (k : Nat) : cat L (k + 1) = cat L k ++ L k := by
  unfold cat; rw [List.range_succ, List.flatMap_append]; simp
theorem cat_le {L : Nat → List Leaf} {i j : Nat} (h : i ≤ j) : (cat L i).length ≤ (cat L j).length := by
  induction h with
  | refl => exact Nat.le_refl _
  | step _ ih => rw [cat_succ, List.length_append]; omega

end Lh
end Go.Proofs.YtllcmfbkingfdaaDoor
/- What slices.Concat answers, of three rows of leafs. -/
namespace Go.Proofs.YtllcmfbkingfdaaDoor
namespace Li
set_option linter.unusedVariables false
open Go.ChangeShapes Go.WideShapes Go.ChangeAt Go.RowKit Bm Ka Kb La Lb Lc Ld Le Lf Lg Lh

theorem own_cat {w : World} {base : Nat} {t : TypeId} {v : Value} {L : Nat → List Leaf} {k : Nat} (h : w.ownsRow base t 3 v ((cat L k).length + (L k).length) (flat (cat L k) ++ flat (L k))) : w.ownsRow base t 3 v (cat L (k + 1)).length (flat (cat L (k + 1))) := by
  rw [cat_succ, List.length_append, flat_append]; exact h

end Li
end Go.Proofs.YtllcmfbkingfdaaDoor
/- What book.put answers. -/
namespace Go.Proofs.YtllcmfbkingfdaaDoor
namespace Lj
set_option linter.unusedVariables false
open Go.ChangeShapes Go.WideShapes Go.ChangeAt Go.RowKit Bm Ka Kb La Lb Lc Ld Le Lf Lg Lh Li

/- a book as a value -/
def BookAt (w : World) (v : Value) (l : List Leaf) : Prop := ∃ p c, v = .slice p l.length c ∧ LeafsIn w p l ∧ l.length ≤ c ∧ c ≤ maxLen ∧ (p = none → c = 0)
theorem BookAt.below {w w' : World} {v : Value} {l : List Leaf} (h : BookAt w v l) (hb : Below w.heap.size w w') : BookAt w' v l := by
  obtain ⟨p, c, h1, h2, h3⟩ := h
  exact ⟨p, c, h1, h2.below hb, h3⟩
theorem BookAt.nil (w : World) : BookAt w (.slice none 0 0) [] := ⟨none, 0, rfl, Or.inl rfl, Nat.le_refl _, by unfold maxLen; omega, fun _ => rfl⟩
/- a book that lies from block B on -/
def BookNew (B : Nat) (w : World) (v : Value) (l : List Leaf) : Prop := BookAt w v l ∧ Lies B v
theorem BookNew.mono {B C : Nat} {w : World} {v : Value} {l : List Leaf} (h : BookNew B w v l) (hC : C ≤ B) : BookNew C w v l := ⟨h.1, h.2.mono hC⟩
theorem BookNew.nil (B : Nat) (w : World) : BookNew B w (.slice none 0 0) [] := ⟨BookAt.nil w, Lies.nil B⟩
theorem own_at {w : World} {base : Nat} {t : TypeId} {v : Value} {n : Nat} {l : List Leaf} (h : w.ownsRow base t 3 v n (flat l)) : BookAt w v l := by
  obtain ⟨hn, p, c, hv, hl⟩ := own_book h
  refine ⟨p, c, by rw [hn]; exact hv, hl, ?_⟩
  rcases h.2 with ⟨e, e0⟩ | ⟨g, cap, cur, e, _, _, h3, h4, _⟩
  · rw [hv] at e
    injection e with e1 e2 e3
    exact ⟨by omega, by rw [e3]; unfold maxLen; omega, fun _ => e3⟩
  · rw [hv] at e
    injection e with e1 e2 e3
    exact ⟨by omega, by omega, fun h9 => by rw [h9] at e1; cases e1⟩
theorem put_set {l : List Leaf} {p : ByteArray} (hh : has l p.toList = true) (x : Leaf) : putL l p x = l.set (ahd l p.toList) x := by
  unfold putL
  rw [hh, if_pos rfl]
  unfold has at hh; rw [Bool.and_eq_true, decide_eq_true_eq] at hh
  rw [List.set_eq_take_append_cons_drop, if_pos hh.1]
theorem put_cat {l : List Leaf} {p : ByteArray} (hh : has l p.toList = false) (x : Leaf) : putL l p x = cat (fun j => if j = 0 then l.take (ahd l p.toList) else if j = 1 then [x] else l.drop (ahd l p.toList)) 3 := by
  unfold putL
  rw [hh]
  simp [cat, List.range_succ]

/- a leaf of a row of the call's own, written anew -/
theorem set_leaf {w : World} {g i : Nat} {l : List Leaf} {x : Leaf} (hi : i < l.length) (hc : ∀ j, j < l.length → At w g 0 j (l.getD j none0)) :
    ∀ j, j < (l.set i x).length → At (((w.setCell ⟨g, i * 3, none⟩ (.string x.1)).setCell ⟨g, i * 3 + 1, none⟩ (.int .i64 x.2.1)).setCell ⟨g, i * 3 + 2, none⟩ (.bool x.2.2)) g 0 j ((l.set i x).getD j none0) := by
  intro j hj
  rw [List.length_set] at hj
  by_cases h : j = i
  · subst h
    have e : (l.set j x).getD j none0 = x := by rw [List.getD_eq_getElem?_getD, List.getElem?_set_self hj]; rfl
    obtain ⟨a1, a2, a3⟩ := hc j hj
    rw [Nat.zero_add] at a1 a2 a3
    rw [e]
    unfold At
    rw [Nat.zero_add]
    have n1 : (⟨g, j * 3, none⟩ : Addr) ≠ ⟨g, j * 3 + 1, none⟩ := by intro e; injection e; omega
    have n2 : (⟨g, j * 3, none⟩ : Addr) ≠ ⟨g, j * 3 + 2, none⟩ := by intro e; injection e; omega
    have n3 : (⟨g, j * 3 + 1, none⟩ : Addr) ≠ ⟨g, j * 3 + 2, none⟩ := by intro e; injection e; omega
    refine ⟨?_, ?_, ?_⟩
    · rw [World.cell?_setCell_other _ _ _ _ n2.symm, World.cell?_setCell_other _ _ _ _ n1.symm, World.cell?_setCell_same _ _ _ a1]
    · rw [World.cell?_setCell_other _ _ _ _ n3.symm]
      obtain ⟨u, hu⟩ := cell?_setCell_some (x := .string x.1) (p := ⟨g, j * 3, none⟩) a2
      rw [World.cell?_setCell_same _ _ _ hu]
    · obtain ⟨u, hu⟩ := cell?_setCell_some (x := .string x.1) (p := ⟨g, j * 3, none⟩) a3
      obtain ⟨u2, hu2⟩ := cell?_setCell_some (x := .int .i64 x.2.1) (p := ⟨g, j * 3 + 1, none⟩) hu
      rw [World.cell?_setCell_same _ _ _ hu2]
  · have e : (l.set i x).getD j none0 = l.getD j none0 := by rw [List.getD_eq_getElem?_getD, List.getD_eq_getElem?_getD, List.getElem?_set_ne (by omega)]
    rw [e]
    obtain ⟨a1, a2, a3⟩ := hc j hj
    unfold At
    refine ⟨?_, ?_, ?_⟩
    · rw [World.cell?_setCell_other _ _ _ _ (by intro e; injection e; omega), World.cell?_setCell_other _ _ _ _ (by intro e; injection e; omega), World.cell?_setCell_other _ _ _ _ (by intro e; injection e; omega)]; exact a1
    · rw [World.cell?_setCell_other _ _ _ _ (by intro e; injection e; omega), World.cell?_setCell_other _ _ _ _ (by intro e; injection e; omega), World.cell?_setCell_other _ _ _ _ (by intro e; injection e; omega)]; exact a2
    · rw [World.cell?_setCell_other _ _ _ _ (by intro e; injection e; omega), World.cell?_setCell_other _ _ _ _ (by intro e; injection e; omega), World.cell?_setCell_other _ _ _ _ (by intro e; injection e; omega)]; exact a3

/- the three rows as they lie in memory when slices.Concat is called -/
def threeW (w2 : World) (x : Leaf) (v0 v2 : Value) : World := ((w2.alloc (.cells #[.string x.1, .int .i64 x.2.1, .bool x.2.2] 66)).alloc (.cells #[v0, .slice (some ⟨w2.heap.size, 0, none⟩) 1 1, v2] 34)).drew
theorem three_below (w2 : World) (x : Leaf) (v0 v2 : Value) : Below w2.heap.size w2 (threeW w2 x v0 v2) :=
  ((((Below.refl _ w2).alloc (Nat.le_refl _) _).alloc (by simp) _).drew)
theorem take_part {w : World} {b o i c : Nat} {l : List Leaf} (hi : i ≤ l.length) (h : ∀ j, j < l.length → At w b o j (l.getD j none0)) : Part w (.slice (some ⟨b, o, none⟩) i c) (l.take i) := by
  have e : (l.take i).length = i := by rw [List.length_take]; omega
  have := LeafsIn.part (w := w) (b := b) (o := o) (l := l.take i) c (fun j hj => by
    rw [e] at hj
    have : (l.take i).getD j none0 = l.getD j none0 := by
      rw [List.getD_eq_getElem?_getD, List.getD_eq_getElem?_getD, List.getElem?_take_of_lt hj]
    rw [this]; exact h j (by omega))
  rw [e] at this; exact this
theorem drop_part {w : World} {b o i c n : Nat} {l : List Leaf} {ad : Addr} (hl : l.length = n) (hi : i ≤ n) (hc : n ≤ c) (had : (if c = i then some (⟨b, o, none⟩ : Addr) else some ⟨b, o + i * 3, none⟩) = some ad) (h : ∀ j, j < l.length → At w b o j (l.getD j none0)) : Part w (.slice (some ad) (n - i) (c - i)) (l.drop i) := by
  have e : (l.drop i).length = n - i := by rw [List.length_drop, hl]
  by_cases hci : c = i
  · have e0 : l.drop i = [] := List.drop_of_length_le (by omega)
    have e1 : n - i = 0 := by omega
    rw [e0, e1]
    exact Or.inr ⟨ad, c - i, rfl, fun j u hu => by simp [flat] at hu⟩
  · rw [if_neg hci] at had
    injection had with had
    subst had
    have := LeafsIn.part (w := w) (b := b) (o := o + i * 3) (l := l.drop i) (c - i) (fun j hj => by
      rw [e] at hj
      have e2 : (l.drop i).getD j none0 = l.getD (i + j) none0 := by
        rw [List.getD_eq_getElem?_getD, List.getD_eq_getElem?_getD, List.getElem?_drop]
      rw [e2]
      have h3 := h (i + j) (by omega)
      unfold At at h3 ⊢
      rw [show o + i * 3 + j * 3 = o + (i + j) * 3 by omega]
      exact h3)
    rw [e] at this; exact this

theorem ahd_nil (p : List UInt8) : ahd [] p = 0 := rfl
theorem has_nil (p : List UInt8) : has [] p = false := rfl
def putR (l : List Leaf) (p : ByteArray) (x : Leaf) : List Leaf := if putE l p = 0 then putL l p x else []
/- book.put, at every book that rises, of at most three hundred leafs -/
end Lj
end Go.Proofs.YtllcmfbkingfdaaDoor
/- A book that came in: its leafs lie in memory. -/
namespace Go.Proofs.YtllcmfbkingfdaaDoor
namespace Lo
set_option linter.unusedVariables false
open Go.ChangeShapes Go.WideShapes Go.ChangeAt Go.RowKit Bm Ka Kb La Lb Lc Lj

theorem laidOut : laidOutB Tryd.prog = true := by kernel_rfl
theorem cells3 : Tryd.prog.cellsOf 66 = 3 := by kernel_rfl
theorem cellsS : Tryd.prog.cellsOf 9 = 1 := by kernel_rfl
theorem cellsI : Tryd.prog.cellsOf 3 = 1 := by kernel_rfl
theorem cellsB : Tryd.prog.cellsOf 4 = 1 := by kernel_rfl

set_option maxRecDepth 100000 in
theorem open_leaf {H : Type} {enc : TypeId × Value → H} {W : World} {base fuel : Nat} {spare : Nat → Bool} {held : Bool} {cs : List Value} {x : DataW H × List MemPlace} (h : DataW.trod enc Tryd.prog W base spare held fuel 66 cs = some x) :
    ∃ y : Leaf, cs = [.string y.1, .int .i64 y.2.1, .bool y.2.2] ∧ y.1.size ≤ maxLen := by
  obtain ⟨y0, y1, y2, n, _, hl, h0, h1, h2⟩ := Deep.trod_struct3 Tryd.underlying66 h
  rw [cells3] at hl
  match cs, hl with
  | [c0, c1, c2], _ =>
    simp only [cellsS, cellsI, cellsB, List.drop_zero, List.drop_succ_cons, List.take_succ_cons, List.take_zero] at h0 h1 h2
    obtain ⟨s, e0, _, hs⟩ := DataW.trod_string Tryd.underlying9 h0
    obtain ⟨m, e1, _, _⟩ := DataW.trod_int Tryd.underlying3 h1
    obtain ⟨b, e2, _⟩ := DataW.trod_bool Tryd.underlying4 h2
    simp only [List.cons.injEq, and_true] at e0 e1 e2
    subst e0 e1 e2
    exact ⟨(s, m, b), rfl, hs⟩

set_option maxRecDepth 100000 in
theorem open_book {H : Type} {enc : TypeId × Value → H} {W : World} {base : Nat} {v : Value} {d : DataW H} {ps : List MemPlace}
    (hv : Value.okWide Tryd.prog W .any base 34 v) (h : DataW.Trod enc Tryd.prog W 0 (fun _ => true) true 34 v d ps) :
    ∃ l, BookAt W v l ∧ ∀ x ∈ l, x.1.size ≤ maxLen := by
  obtain ⟨a0, len0, cap0, rfl⟩ := okWide_slice Tryd.underlying34 hv
  obtain ⟨fuel, hf⟩ := h
  rcases Deep.open_slice Tryd.underlying34 hf with ⟨hcs, _⟩ | ⟨a, len, cap, m, n, D, Pl, hcs, _, hl, hm, hmm, hx, hel⟩
  · simp [Value.cells] at hcs
    obtain ⟨rfl, rfl, rfl⟩ := hcs
    exact ⟨[], BookAt.nil W, by intro x hx; simp at hx⟩
  · simp [Value.cells] at hcs
    obtain ⟨rfl, rfl, rfl⟩ := hcs
    simp at hmm
    have each : ∀ i, i < len0 → ∃ y : Leaf, (W.cell? (a.add (i * 3)) = some (.string y.1) ∧ W.cell? (a.add (i * 3 + 1)) = some (.int .i64 y.2.1) ∧ W.cell? (a.add (i * 3 + 2)) = some (.bool y.2.2)) ∧ y.1.size ≤ maxLen := by
      intro i hi
      obtain ⟨cs', h1, h2⟩ := hel i (by omega)
      rw [cells3] at h1
      obtain ⟨y, rfl, hs⟩ := open_leaf h2
      obtain ⟨_, _, hc⟩ := World.cells?_some h1
      refine ⟨y, ⟨?_, ?_, ?_⟩, hs⟩
      · have := hc 0 (by omega); rw [Deep.add_add, Nat.add_zero] at this; exact this
      · have := hc 1 (by omega); rw [Deep.add_add] at this; exact this
      · have := hc 2 (by omega); rw [Deep.add_add] at this; exact this
    obtain ⟨X, hX⟩ := Deep.choose_lt (α := Leaf) each
    have hlen : ((List.range len0).map X).length = len0 := by simp
    refine ⟨(List.range len0).map X, ⟨some a, cap0, by rw [hlen], ?_, by rw [hlen]; exact hl, hm, fun h => by cases h⟩, ?_⟩
    · by_cases h0 : len0 = 0
      · left; rw [h0]; rfl
      · right
        obtain ⟨b, off, spot⟩ := a
        have hc0 := (hX 0 (by omega)).1.1
        have hspot : spot = none := by simpa [Addr.add] using World.cell?_spot hc0
        subst hspot
        refine ⟨b, off, rfl, fun j hj => ?_⟩
        rw [hlen] at hj
        have e : ((List.range len0).map X).getD j none0 = X j := by
          rw [List.getD_eq_getElem?_getD, List.getElem?_map, List.getElem?_range hj]; rfl
        rw [e]
        obtain ⟨⟨h1, h2, h3⟩, _⟩ := hX j hj
        rw [Addr.add_lit] at h1 h2 h3
        exact ⟨h1, h2, h3⟩
    · intro x hx
      obtain ⟨j, hj, rfl⟩ := List.mem_map.1 hx
      exact (hX j (List.mem_range.1 hj)).2

end Lo
end Go.Proofs.YtllcmfbkingfdaaDoor
