
import Derived.Test.YtnbnniapllkjlaaGreatDoorJ10
namespace Go.Proofs.YtnbnniapllkjlaaGreatDoor
namespace Xp
set_option linter.unusedVariables false
open Go.ChangeShapes Go.WideShapes Go.ChangeAt Go.RowKit Cm Ka Kb Na Om Oa Oz Oc Og Oi Hm Ia Ib Ic Idc Ie
open La (bel bel_drew errV_zero errV_ne own_ge own_grow own_below Lies)
open Lj (BookAt BookNew)
def Wn (E gk : Nat) (vo : Value) (g : Nat) : Prop := g = E ∨ g = gk ∨ vo.ownBlock = some g
def Gn (F : Nat → Prop) (E gk : Nat) (vo : Value) (g : Nat) : Prop := F g ∧ ¬ Wn E gk vo g
structure RefMem (B : Nat → Prop) (w : World) (E gk : Nat) (vb vm vo : Value) (S : Dq) (F : Nat → Prop) : Prop where
  blk : w.heap[E]? = some (.cells #[vb, vm, .slice (some ⟨gk, 0, none⟩) 8 8, vo] 43)
  kn : ∃ cur : Array Value, w.heap[gk]? = some (.cells cur 3 (0, 0)) ∧ cur.toList = S.known.map (Value.int .i64)
  book : BookAt w vb S.book
  bookG : In (Gn F E gk vo) vb
  marks : MksAt w vm S.marks
  marksG : In (Gn F E gk vo) vm
  ops : OpsOwn w B vo S.ops
  wr : ∀ g, Wn E gk vo g → F g
  lt : ∀ g, F g → ¬ B g ∧ g < w.heap.size
  old : ∀ g, B g → g < w.heap.size
theorem RefMem.stay {B : Nat → Prop} {w w' : World} {E gk : Nat} {vb vm vo : Value} {S : Dq} {F : Nat → Prop} (h : RefMem B w E gk vb vm vo S F) (hs : ∀ g, F g ∨ B g → w'.heap[g]? = w.heap[g]?) (hz : w.heap.size ≤ w'.heap.size) : RefMem B w' E gk vb vm vo S F := by
  have hG : Stay (Gn F E gk vo) w w' := fun g hg => hs g (Or.inl hg.1)
  obtain ⟨cur, k1, k2⟩ := h.kn
  exact ⟨by rw [hs _ (Or.inl (h.wr _ (Or.inl rfl)))]; exact h.blk, ⟨cur, by rw [hs _ (Or.inl (h.wr _ (Or.inr (Or.inl rfl))))]; exact k1, k2⟩, book_stay h.book h.bookG hG, h.bookG, marks_stay h.marks h.marksG hG, h.marksG, ops_stay h.ops (fun g hg => hs g (Or.inl (h.wr g (Or.inr (Or.inr hg))))) (fun g hg => hs g (Or.inr hg)), h.wr, fun g hg => ⟨(h.lt g hg).1, Nat.lt_of_lt_of_le (h.lt g hg).2 hz⟩, fun g hg => Nat.lt_of_lt_of_le (h.old g hg) hz⟩
theorem RefMem.below {B : Nat → Prop} {w w' : World} {E gk : Nat} {vb vm vo : Value} {S : Dq} {F : Nat → Prop} (h : RefMem B w E gk vb vm vo S F) (hb : Below w.heap.size w w') : RefMem B w' E gk vb vm vo S F :=
  h.stay (fun g hg => hb.block g (by rcases hg with e | e; exact (h.lt g e).2; exact h.old g e)) hb.size
theorem blk_ne {w : World} {g k : Nat} {c d : Array Value} {t u : TypeId} (h : w.heap[g]? = some (.cells c t (0, 0))) (h2 : w.heap[k]? = some (.cells d u (0, 0))) (hn : t ≠ u) : g ≠ k := fun e => by
  rw [e, h2] at h
  injection h with h
  injection h with _ h _
  exact hn h.symm
def RefAt (B : Nat → Prop) (w : World) (E : Nat) (S : Dq) (F : Nat → Prop) : Prop := Inv S ∧ ∃ gk vb vm vo, RefMem B w E gk vb vm vo S F
theorem RefAt.inv {B : Nat → Prop} {w : World} {E : Nat} {S : Dq} {F : Nat → Prop} (h : RefAt B w E S F) : Inv S := h.1
theorem RefAt.lt {B : Nat → Prop} {w : World} {E : Nat} {S : Dq} {F : Nat → Prop} (h : RefAt B w E S F) : ∀ g, F g → ¬ B g ∧ g < w.heap.size := by
  obtain ⟨_, gk, vb, vm, vo, h⟩ := h; exact h.lt
theorem RefAt.below {B : Nat → Prop} {w w' : World} {E : Nat} {S : Dq} {F : Nat → Prop} (h : RefAt B w E S F) (hb : Below w.heap.size w w') : RefAt B w' E S F := by
  obtain ⟨I, gk, vb, vm, vo, h⟩ := h; exact ⟨I, gk, vb, vm, vo, h.below hb⟩
theorem RefAt.chg {B : Nat → Prop} {w w' : World} {E : Nat} {S : Dq} {F H : Nat → Prop} (h : RefAt B w E S F) (hc : Chg H w w') (hB : ∀ g, H g → ¬ B g) (hd : ∀ g, F g → ¬ H g) : RefAt B w' E S F := by
  obtain ⟨I, gk, vb, vm, vo, h⟩ := h
  refine ⟨I, gk, vb, vm, vo, h.stay (fun g hg => ?_) hc.size⟩
  rcases hg with e | e
  · exact hc.block g (h.lt g e).2 (hd g e)
  · exact hc.block g (h.old g e) (fun e9 => hB g e9 e)
theorem RefAt.old {B : Nat → Prop} {w : World} {E : Nat} {S : Dq} {F : Nat → Prop} (h : RefAt B w E S F) : ∀ g, B g → g < w.heap.size := by
  obtain ⟨_, gk, vb, vm, vo, h⟩ := h; exact h.old
def RPost (B : Nat → Prop) (w : World) (E : Nat) (S : Dq) (F : Nat → Prop) (o : Ox) (e : Ending) (w' : World) : Prop :=
  e = .returned (.tuple #[.bool (isNew S o), .int .i64 (apE S o)]) ∧ ∃ F', RefAt B w' E (apS S o) F' ∧ Chg F w w' ∧ ∀ g, F' g → F g ∨ w.heap.size ≤ g
theorem RPost.no {B : Nat → Prop} {w w' : World} {E : Nat} {S : Dq} {F : Nat → Prop} {o : Ox} {k : Int} (h : RefAt B w E S F) (hn : isNew S o = false) (he : apE S o = k) (hb : Below w.heap.size w w') : RPost B w E S F o (.returned (.tuple #[.bool false, .int .i64 k])) w' := by
  refine ⟨by rw [hn, he], F, ?_, Chg.ofBelow hb F, fun g hg => Or.inl hg⟩
  unfold apS
  rw [hn]
  exact h.below hb
def st3 (w : World) (E gk i : Nat) (vb vm : Value) (n : Int) : World := ((w.setCell ⟨E, 0, none⟩ vb).setCell ⟨E, 1, none⟩ vm).setCell ⟨gk, i, none⟩ (.int .i64 n)
def News' (F : Nat → Prop) (w w' : World) (g : Nat) : Prop := F g ∨ (w.heap.size ≤ g ∧ g < w'.heap.size)
theorem ref_st3 {B : Nat → Prop} {w w7 : World} {E gk i : Nat} {vb vm vo vb' vm' : Value} {S : Dq} {F : Nat → Prop} {Bk : List Bm.Leaf} {Mx : List Mk} {n : Int} (h : RefMem B w E gk vb vm vo S F) (hb : Below w.heap.size w w7)
    (h1 : BookAt w7 vb' Bk) (i1 : In (Gn (News' F w w7) E gk vo) vb') (h2 : MksAt w7 vm' Mx) (i2 : In (Gn (News' F w w7) E gk vo) vm') :
    RefMem B (st3 w7 E gk i vb' vm' n) E gk vb' vm' vo ⟨Bk, Mx, S.known.set i n, S.ops⟩ (News' F w w7) ∧ Chg F w (st3 w7 E gk i vb' vm' n) := by
  have h7 := h.below hb
  obtain ⟨cur, k1, k2⟩ := h7.kn
  have hEk : E ≠ gk := blk_ne h7.blk k1 (by decide)
  have oth : ∀ g, g ≠ E → g ≠ gk → (st3 w7 E gk i vb' vm' n).heap[g]? = w7.heap[g]? := fun g e1 e2 => by
    unfold st3; rw [set_block _ _ _ _ e2, set_block _ _ _ _ e1, set_block _ _ _ _ e1]
  have hs : Stay (Gn (News' F w w7) E gk vo) w7 (st3 w7 E gk i vb' vm' n) := fun g hg => oth g (fun e => hg.2 (Or.inl e)) (fun e => hg.2 (Or.inr (Or.inl e)))
  have hz : (st3 w7 E gk i vb' vm' n).heap.size = w7.heap.size := by unfold st3; rw [set_size, set_size, set_size]
  obtain ⟨L, o1, o2, o3⟩ := h7.ops
  refine ⟨⟨?_, ?_, book_stay h1 i1 hs, i1, marks_stay h2 i2 hs, i2, ⟨L, o1, own_stay o2 (fun g hg => ?_), fun y hy => ⟨dots_stay (o3 y hy).1 (o3 y hy).2 (fun g hg => ?_), (o3 y hy).2⟩⟩, fun g hg => Or.inl (h.wr g hg), fun g hg => ?_, fun g hg => by rw [hz]; exact h7.old g hg⟩, ?_⟩
  · show (st3 w7 E gk i vb' vm' n).heap[E]? = _
    unfold st3
    rw [set_block _ _ _ _ hEk, set_heap (set_heap h7.blk)]; rfl
  · refine ⟨cur.setIfInBounds i (.int .i64 n), ?_, ?_⟩
    · unfold st3
      refine set_heap ?_
      rw [set_block _ _ _ _ hEk.symm, set_block _ _ _ _ hEk.symm]; exact k1
    · rw [Array.toList_setIfInBounds, k2, List.map_set]
  · obtain ⟨_, cur2, hc⟩ := own_lt o2 g hg
    exact oth g (blk_ne hc h7.blk (by decide)) (blk_ne hc k1 (by decide))
  · have hE := (h.lt _ (h.wr _ (Or.inl rfl))).1
    have hK := (h.lt _ (h.wr _ (Or.inr (Or.inl rfl)))).1
    exact oth g (fun e => hE (e ▸ hg)) (fun e => hK (e ▸ hg))
  · rw [hz]
    rcases hg with e | e
    · exact ⟨(h.lt g e).1, (h7.lt g e).2⟩
    · exact ⟨fun e9 => by have := h.old g e9; omega, e.2⟩
  · exact (((Chg.ofBelow hb F).setCell (p := ⟨E, 0, none⟩) (h.wr _ (Or.inl rfl)) _).setCell (p := ⟨E, 1, none⟩) (h.wr _ (Or.inl rfl)) _).setCell (p := ⟨gk, i, none⟩) (h.wr _ (Or.inr (Or.inl rfl))) _
theorem ref_ops {B : Nat → Prop} {w w1 w2 : World} {E gk : Nat} {vb vm vo v9 vs : Value} {S : Dq} {F : Nat → Prop} {o : Ox} {L : List (Ox × Value)} (h : RefMem B w E gk vb vm vo S F) (hL : L.map (·.1) = S.ops) (hLd : ∀ y ∈ L, DtsAt w y.2 y.1.2.2.2.2 ∧ In B y.2) (hb : Below w.heap.size w w1)
    (hd : DtsAt w vs o.2.2.2.2) (hi : In B vs) (hg : w1.grownBy w2 vo.ownBlock) (hr : w2.ownsRow 0 33 6 v9 (S.ops.length + 1) (flatO (L ++ [(o, vs)]))) (hl : v9.ownBlock = vo.ownBlock ∨ v9.ownBlock = some w1.heap.size) :
    RefMem B (w2.setCell ⟨E, 3, none⟩ v9) E gk vb vm v9 { S with ops := S.ops ++ [o] } (News' F w w2) ∧ Chg F w (w2.setCell ⟨E, 3, none⟩ v9) := by
  have h1 := h.below hb
  obtain ⟨L0, p1, p2, p3⟩ := h1.ops
  obtain ⟨cur, k1, k2⟩ := h1.kn
  have hvo : ∀ g, vo.ownBlock = some g → ∃ cur, w1.heap[g]? = some (.cells cur 33 (0, 0)) := fun g hgg => (own_lt p2 g hgg).2
  have hDne : ∀ g, vo.ownBlock = some g → g ≠ E := fun g hgg => by
    obtain ⟨cur2, hc⟩ := hvo g hgg
    exact blk_ne hc h1.blk (by decide)
  have hKne : ∀ g, vo.ownBlock = some g → g ≠ gk := fun g hgg => by
    obtain ⟨cur2, hc⟩ := hvo g hgg
    exact blk_ne hc k1 (by decide)
  have hEk : E ≠ gk := blk_ne h1.blk k1 (by decide)
  have oth : ∀ g, g < w1.heap.size → g ≠ E → vo.ownBlock ≠ some g → (w2.setCell ⟨E, 3, none⟩ v9).heap[g]? = w1.heap[g]? := fun g hgl hne hnv => by
    rw [set_block _ _ _ _ hne]; exact hg.block g hgl (fun e => hnv e.symm)
  have hE2 : w2.heap[E]? = some (.cells #[vb, vm, .slice (some ⟨gk, 0, none⟩) 8 8, vo] 43) := by
    rw [hg.block _ (Array.getElem?_eq_some_iff.1 h1.blk).1 (fun e => hDne E e.symm rfl)]; exact h1.blk
  have hz1 := hb.size
  have hz2 := hg.size
  have hEl := h.lt _ (h.wr _ (Or.inl rfl))
  have hKl := h.lt _ (h.wr _ (Or.inr (Or.inl rfl)))
  have hs : Stay (Gn F E gk vo) w1 (w2.setCell ⟨E, 3, none⟩ v9) := fun g hgg => oth g (h1.lt g hgg.1).2 (fun e => hgg.2 (Or.inl e)) (fun e => hgg.2 (Or.inr (Or.inr e)))
  have hsB : Stay B w1 (w2.setCell ⟨E, 3, none⟩ v9) := fun g hgg => by
    exact oth g (by have := h.old g hgg; omega) (fun e => hEl.1 (e ▸ hgg)) (fun e => (h.lt g (h.wr g (Or.inr (Or.inr e)))).1 hgg)
  have hmono : ∀ g, Gn F E gk vo g → Gn (News' F w w2) E gk v9 g := fun g hgg => ⟨Or.inl hgg.1, fun e => by
    rcases e with e | e | e
    · exact hgg.2 (Or.inl e)
    · exact hgg.2 (Or.inr (Or.inl e))
    · rcases hl with e2 | e2
      · exact hgg.2 (Or.inr (Or.inr (e2 ▸ e)))
      · rw [e] at e2; injection e2 with e2
        have := (h.lt g hgg.1).2; omega⟩
  refine ⟨⟨?_, ⟨cur, ?_, k2⟩, book_stay h1.book h1.bookG hs, h1.bookG.mono hmono, marks_stay h1.marks h1.marksG hs, h1.marksG.mono hmono, ?_, fun g hgg => ?_, fun g hgg => ?_, fun g hgg => by rw [set_size]; have := h.old g hgg; omega⟩, ?_⟩
  · rw [set_heap hE2]; rfl
  · rw [oth gk (by omega) hEk.symm (fun e => hKne gk e rfl)]; exact k1
  · refine ⟨L ++ [(o, vs)], by rw [List.map_append, hL]; rfl, ?_, fun y hy => ?_⟩
    · rw [List.length_append]
      refine own_stay hr fun g hgg => set_block _ _ _ _ ?_
      obtain ⟨_, cur2, hc⟩ := own_lt hr g hgg
      exact blk_ne hc hE2 (by decide)
    · rcases List.mem_append.1 hy with hy | hy
      · exact ⟨dots_stay ((hLd y hy).1.below hb) (hLd y hy).2 hsB, (hLd y hy).2⟩
      · rw [List.mem_singleton.1 hy]
        exact ⟨dots_stay (hd.below hb) hi hsB, hi⟩
  · rcases hgg with e | e | e
    · exact Or.inl (h.wr g (Or.inl e))
    · exact Or.inl (h.wr g (Or.inr (Or.inl e)))
    · rcases hl with e2 | e2
      · exact Or.inl (h.wr g (Or.inr (Or.inr (e2 ▸ e))))
      · have hlt := (own_lt hr g e).1
        rw [e] at e2; injection e2 with e2
        exact Or.inr ⟨by omega, hlt⟩
  · rw [set_size]
    rcases hgg with e | e
    · exact ⟨(h.lt g e).1, by have := (h.lt g e).2; omega⟩
    · exact ⟨fun e9 => by have := h.old g e9; omega, e.2⟩
  · refine (Chg.ofBelow hb F).trans ?_
    have c1 : Chg F w1 w2 := Chg.grown hg fun g e => h.wr g (Or.inr (Or.inr e))
    exact c1.setCell (p := ⟨E, 3, none⟩) (h.wr _ (Or.inl rfl)) _
theorem ref_end {B : Nat → Prop} {w w8 w9 w10 : World} {E gk : Nat} {vb vm vo v9 vs : Value} {S : Dq} {F F1 : Nat → Prop} {o : Ox} {L : List (Ox × Value)} (I : Inv S) (hnew : isNew S o = true) (hc8 : Chg F w w8) (hF1 : ∀ g, F1 g → F g ∨ w.heap.size ≤ g)
    (h8 : RefMem B w8 E gk vb vm vo ⟨doB S o, doM S o, S.known.set (o.1.1 - 1).toNat o.1.2, S.ops⟩ F1) (hL : L.map (·.1) = S.ops) (hLd : ∀ y ∈ L, DtsAt w8 y.2 y.1.2.2.2.2 ∧ In B y.2) (hb : Below w8.heap.size w8 w9)
    (hd : DtsAt w8 vs o.2.2.2.2) (hi : In B vs) (hg : w9.grownBy w10 vo.ownBlock) (hr : w10.ownsRow 0 33 6 v9 (S.ops.length + 1) (flatO (L ++ [(o, vs)]))) (hl : v9.ownBlock = vo.ownBlock ∨ v9.ownBlock = some w9.heap.size) :
    RPost B w E S F o (.returned (.tuple #[.bool true, .int .i64 0])) (w10.setCell ⟨E, 3, none⟩ v9) := by
  obtain ⟨r1, r2⟩ := ref_ops h8 hL hLd hb hd hi hg hr hl
  obtain ⟨e0, hk, hfew, hdo⟩ := isNew_iff.1 hnew
  have hap : apE S o = 0 := by
    unfold apE
    rw [if_neg (by simpa using e0), if_neg (by omega), if_neg (by omega), if_neg (by omega)]
    exact hdo
  have hz := hc8.size
  refine ⟨by rw [hnew, hap], News' F1 w8 w10, ?_, hc8.next r2 hF1, fun g hgg => ?_⟩
  · unfold apS
    rw [hnew, if_pos rfl]
    exact ⟨inv_next I hnew, gk, vb, vm, v9, r1⟩
  · rcases hgg with e | e
    · exact hF1 g e
    · exact Or.inr (by omega)
end Xp
end Go.Proofs.YtnbnniapllkjlaaGreatDoor
