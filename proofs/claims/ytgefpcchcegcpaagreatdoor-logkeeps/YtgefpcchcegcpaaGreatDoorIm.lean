/- What Ops answers: copies of all of them, in blocks of their own. -/
import Derived.Test.YtgefpcchcegcpaaGreatDoorIl
namespace Go.Proofs.YtgefpcchcegcpaaGreatDoor
namespace Im
set_option linter.unusedVariables false
open Go.ChangeShapes Go.WideShapes Go.ChangeAt Go.RowKit Cm Ka Kb Na Om Oa Oz Oc Og Oi Hm Ia Ib Ic Idc Ie If Ig Ih Ii Ij Ik Il
open La (bel bel_drew errV_zero errV_ne own_ge own_grow own_below Lies)

theorem set6 (l : List Value) (m : Nat) (x0 x1 x2 x3 x4 x5 : Value) (h : m + 6 ≤ l.length) :
    ((((((l.set m x0).set (m + 1) x1).set (m + 2) x2).set (m + 3) x3).set (m + 4) x4).set (m + 5) x5).take (m + 6) = l.take m ++ [x0, x1, x2, x3, x4, x5] := by
  apply List.ext_getElem?
  intro j
  have hl : (l.take m).length = m := by rw [List.length_take]; omega
  by_cases hj : j < m
  · rw [List.getElem?_append_left (by omega), List.getElem?_take_of_lt (by omega), List.getElem?_take_of_lt hj]
    rw [List.getElem?_set_ne (by omega), List.getElem?_set_ne (by omega), List.getElem?_set_ne (by omega), List.getElem?_set_ne (by omega), List.getElem?_set_ne (by omega), List.getElem?_set_ne (by omega)]
  · rw [List.getElem?_append_right (by omega), hl]
    by_cases hj2 : j < m + 6
    · rw [List.getElem?_take_of_lt hj2]
      have h6 : j = m ∨ j = m + 1 ∨ j = m + 2 ∨ j = m + 3 ∨ j = m + 4 ∨ j = m + 5 := by omega
      rcases h6 with rfl | rfl | rfl | rfl | rfl | rfl
      · rw [List.getElem?_set_ne (by omega), List.getElem?_set_ne (by omega), List.getElem?_set_ne (by omega), List.getElem?_set_ne (by omega), List.getElem?_set_ne (by omega), List.getElem?_set_self (by omega)]; simp
      · rw [List.getElem?_set_ne (by omega), List.getElem?_set_ne (by omega), List.getElem?_set_ne (by omega), List.getElem?_set_ne (by omega), List.getElem?_set_self (by simp; omega)]; simp
      · rw [List.getElem?_set_ne (by omega), List.getElem?_set_ne (by omega), List.getElem?_set_ne (by omega), List.getElem?_set_self (by simp; omega)]; simp
      · rw [List.getElem?_set_ne (by omega), List.getElem?_set_ne (by omega), List.getElem?_set_self (by simp; omega)]; simp
      · rw [List.getElem?_set_ne (by omega), List.getElem?_set_self (by simp; omega)]; simp
      · rw [List.getElem?_set_self (by simp; omega)]; simp
    · rw [List.getElem?_eq_none (by rw [List.length_take]; omega), List.getElem?_eq_none (by simp; omega)]

/- a row of n ops that is filled one by one: the first ones -/
def RowO (w : World) (g n : Nat) (L : List (Ox × Value)) : Prop := ∃ cur : Array Value, w.heap[g]? = some (.cells cur 34 (0, 0)) ∧ cur.size = n * 6 ∧ cur.toList.take (L.length * 6) = flatO L
theorem RowO.below {w w' : World} {g n : Nat} {L : List (Ox × Value)} (h : RowO w g n L) (hb : Below w.heap.size w w') : RowO w' g n L := by
  obtain ⟨cur, h1, h2⟩ := h
  exact ⟨cur, keep_heap hb h1, h2⟩
def w6s (w : World) (g m : Nat) (x : Ox) (v : Value) : World := (((((w.setCell ⟨g, m, none⟩ (.int .i64 x.1.1)).setCell ⟨g, m + 1, none⟩ (.int .i64 x.1.2)).setCell ⟨g, m + 2, none⟩ (.int .i64 x.2.1)).setCell ⟨g, m + 3, none⟩ (.string x.2.2.1)).setCell ⟨g, m + 4, none⟩ (.int .i64 x.2.2.2.1)).setCell ⟨g, m + 5, none⟩ v
theorem RowO.put {w : World} {g n : Nat} {L : List (Ox × Value)} {x : Ox} {v : Value} (h : RowO w g n L) (hk : L.length < n) : RowO (w6s w g (L.length * 6) x v) g n (L ++ [(x, v)]) := by
  obtain ⟨cur, h1, h2, h3⟩ := h
  refine ⟨_, set_heap (set_heap (set_heap (set_heap (set_heap (set_heap h1))))), by simp [h2], ?_⟩
  rw [List.length_append, flatO_append, ← h3]
  have e : flatO [(x, v)] = [.int .i64 x.1.1, .int .i64 x.1.2, .int .i64 x.2.1, .string x.2.2.1, .int .i64 x.2.2.2.1, v] := rfl
  rw [e, show (L.length + [(x, v)].length) * 6 = L.length * 6 + 6 by simp; omega]
  rw [← set6 cur.toList (L.length * 6) _ _ _ _ _ _ (by have h9 : cur.toList.length = n * 6 := (by simpa using h2); omega)]
  simp only [Array.toList_setIfInBounds]
theorem RowO.at {w : World} {g n : Nat} {L : List (Ox × Value)} (h : RowO w g n L) {j : Nat} {y : Ox × Value} (hj : L[j]? = some y) : ∀ i u, (six y.1 y.2)[i]? = some u → w.cell? ⟨g, j * 6 + i, none⟩ = some u := by
  obtain ⟨cur, h1, h2, h3⟩ := h
  intro i u hu
  have hf := flatO_at hj i u hu
  have hlt : j * 6 + i < (flatO L).length := (List.getElem?_eq_some_iff.1 hf).1
  rw [flatO_length] at hlt
  rw [← h3, List.getElem?_take_of_lt hlt] at hf
  exact blk_cell h1 (by simpa using hf)
theorem w6s_block (w : World) (g m : Nat) (x : Ox) (v : Value) (k : Nat) (h : k ≠ g) : (w6s w g m x v).heap[k]? = w.heap[k]? := by
  unfold w6s
  rw [set_block _ _ _ _ h, set_block _ _ _ _ h, set_block _ _ _ _ h, set_block _ _ _ _ h, set_block _ _ _ _ h, set_block _ _ _ _ h]
theorem w6s_below {w0 w : World} {g B m : Nat} (hb : Below B w0 w) (hg : B ≤ g) (x : Ox) (v : Value) : Below B w0 (w6s w g m x v) :=
  (((((hb.setCell (p := ⟨g, m, none⟩) hg _).setCell (p := ⟨g, m + 1, none⟩) hg _).setCell (p := ⟨g, m + 2, none⟩) hg _).setCell (p := ⟨g, m + 3, none⟩) hg _).setCell (p := ⟨g, m + 4, none⟩) hg _).setCell (p := ⟨g, m + 5, none⟩) hg _

/- ops that lie from block B on, each with a list of its own -/
def OpsNew (B : Nat) (w : World) (v : Value) (l : List Ox) : Prop := ∃ g L, v = .slice (some ⟨g, 0, none⟩) l.length l.length ∧ B ≤ g ∧ L.map (·.1) = l ∧ RowO w g l.length L ∧ l.length ≤ 1048576 ∧ ∀ y ∈ L, w.ownsRow B 31 2 y.2 y.1.2.2.2.2.length (flatD y.1.2.2.2.2)
theorem OpsNew.below {B : Nat} {w w' : World} {v : Value} {l : List Ox} (h : OpsNew B w v l) (hb : Below w.heap.size w w') : OpsNew B w' v l := by
  obtain ⟨g, L, h1, h2, h3, h4, h6, h5⟩ := h
  exact ⟨g, L, h1, h2, h3, h4.below hb, h6, fun y hy => own_below (h5 y hy) hb⟩
theorem OpsNew.at {B : Nat} {w : World} {v : Value} {l : List Ox} (h : OpsNew B w v l) : OpsAt w v l := by
  obtain ⟨g, L, h1, h2, h3, h4, h6, h5⟩ := h
  have hlen : L.length = l.length := by rw [← h3, List.length_map]
  refine ⟨some ⟨g, 0, none⟩, l.length, h1, Or.inr ⟨g, 0, rfl, fun j hj => ?_⟩, Nat.le_refl _, ?_, fun e => by cases e⟩
  · have hj2 : j < L.length := by omega
    have hy := List.getElem?_eq_getElem hj2
    have e1 : l.getD j oz = L[j].1 := by rw [← h3, List.getD_eq_getElem?_getD, List.getElem?_map, hy]; rfl
    rw [e1]
    have key := h4.at hy
    refine ⟨L[j].2, ⟨?_, ?_, ?_, ?_, ?_, ?_⟩, own_dts (h5 _ (List.getElem_mem hj2))⟩
    · have := key 0 _ rfl; rwa [show j * 6 + 0 = 0 + j * 6 by omega] at this
    · have := key 1 _ rfl; rwa [show j * 6 + 1 = 0 + j * 6 + 1 by omega] at this
    · have := key 2 _ rfl; rwa [show j * 6 + 2 = 0 + j * 6 + 2 by omega] at this
    · have := key 3 _ rfl; rwa [show j * 6 + 3 = 0 + j * 6 + 3 by omega] at this
    · have := key 4 _ rfl; rwa [show j * 6 + 4 = 0 + j * 6 + 4 by omega] at this
    · have := key 5 _ rfl; rwa [show j * 6 + 5 = 0 + j * 6 + 5 by omega] at this
  · unfold maxLen; omega
theorem take_next {l : List Ox} {k : Nat} (hk : k < l.length) : l.take (k + 1) = l.take k ++ [l.getD k oz] := by
  rw [List.take_add_one, List.getElem?_eq_getElem hk, List.getD_eq_getElem?_getD, List.getElem?_eq_getElem hk]; rfl

structure OpsSt (w : World) (n : Nat) (l : List Ox) (g k : Nat) (wr : World) (L : List (Ox × Value)) : Prop where
  bl : Below w.heap.size w wr
  row : RowO wr g n L
  ls : L.map (·.1) = l.take k
  own : ∀ y ∈ L, wr.ownsRow w.heap.size 31 2 y.2 y.1.2.2.2.2.length (flatD y.1.2.2.2.2)
theorem OpsSt.below {w : World} {n : Nat} {l : List Ox} {g k : Nat} {wr w' : World} {L : List (Ox × Value)} (h : OpsSt w n l g k wr L) (hb : Below wr.heap.size wr w') : OpsSt w n l g k w' L :=
  ⟨bel h.bl hb, h.row.below hb, h.ls, fun y hy => own_below (h.own y hy) hb⟩
theorem OpsSt.put {w : World} {n : Nat} {l : List Ox} {g k : Nat} {wr : World} {L : List (Ox × Value)} {x : Ox} {v : Value} (h : OpsSt w n l g k wr L) (hg : w.heap.size ≤ g) (hn : l.length = n) (hk : k < n) (hx : x = l.getD k oz) (hv : wr.ownsRow w.heap.size 31 2 v x.2.2.2.2.length (flatD x.2.2.2.2)) :
    OpsSt w n l g (k + 1) (w6s wr g (k * 6) x v) (L ++ [(x, v)]) := by
  have hlen : L.length = k := by have := congrArg List.length h.ls; rw [List.length_map, List.length_take] at this; omega
  have hr := h.row.put (x := x) (v := v) (by omega)
  rw [hlen] at hr
  have hne : ∀ (u : Value) (m : Nat) (xs : List Value), wr.ownsRow w.heap.size 31 2 u m xs → ∀ q, u.ownBlock = some q → q ≠ g := fun u m xs ho q hq e => by
    obtain ⟨_, cur, hc⟩ := own_lt ho q hq
    obtain ⟨cur2, c1, _⟩ := h.row
    rw [e, c1] at hc
    injection hc with hc
    injection hc with _ hc _
    exact absurd hc (by decide)
  refine ⟨w6s_below h.bl hg x v, hr, by rw [List.map_append, h.ls, take_next (by omega), ← hx]; rfl, fun y hy => ?_⟩
  rcases List.mem_append.1 hy with hy | hy
  · exact own_stay (h.own y hy) fun q hq => w6s_block _ _ _ _ _ _ (hne _ _ _ (h.own y hy) q hq)
  · rw [List.mem_singleton.1 hy]
    exact own_stay hv fun q hq => w6s_block _ _ _ _ _ _ (hne _ _ _ hv q hq)

end Im
end Go.Proofs.YtgefpcchcegcpaaGreatDoor
