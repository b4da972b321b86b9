import Derived.Test.YtllcmfbkingfdaaDoorJ4
import Derived.Lib.AppendZeros
import Derived.Laws.StructEq
import Derived.Laws.IdiomCopy
import Derived.Tactics
import Derived.OwnWalk
/- What slices.Clone, slices.Grow and slices.Concat answer, of marks. -/
namespace Go.Proofs.YtllcmfbkingfdaaDoor
namespace Nf
set_option linter.unusedVariables false
open Go.ChangeShapes Go.WideShapes Go.ChangeAt Go.RowKit Cm Ka Kb Na Nb Nc Nd Nse
open La (bel bel_drew errV_zero errV_ne own_ge own_grow own_below)

theorem infoMark : (Tryd.prog.info? 71).map (fun i => (i.zero, i.size, i.bytes)) = some (some (.agg #[.string ⟨#[]⟩, .int .i64 0, .int .i64 0]), 3, 32) := by kernel_rfl

/- leafs that lie behind a slice's address -/
def Part (w : World) (v : Value) (l : List Mk) : Prop := (v = .slice none 0 0 ∧ l = []) ∨ ∃ ad c, v = .slice (some ad) l.length c ∧ ∀ i u, (flat l)[i]? = some u → w.cell? (ad.add i) = some u
theorem Part.below {w w' : World} {v : Value} {l : List Mk} (h : Part w v l) (hb : Below w.heap.size w w') : Part w' v l := by
  rcases h with h | ⟨ad, c, h1, h2⟩
  · exact Or.inl h
  · exact Or.inr ⟨ad, c, h1, fun i u hu => (hb.cell (World.block_lt_of_cell? _ _ (h2 i u hu))).trans (h2 i u hu)⟩
theorem Part.len {w : World} {v : Value} {l : List Mk} (h : Part w v l) : ∃ p c, v = .slice p l.length c := by
  rcases h with ⟨rfl, rfl⟩ | ⟨ad, c, rfl, _⟩
  · exact ⟨none, 0, rfl⟩
  · exact ⟨some ad, c, rfl⟩
theorem marks_part {w : World} {b o : Nat} {l : List Mk} (c : Nat) (h : ∀ j, j < l.length → MAt w b o j (l.getD j none1)) : Part w (.slice (some ⟨b, o, none⟩) l.length c) l :=
  Or.inr ⟨_, c, rfl, fun i u hu => by rw [Addr.add_lit]; exact at_flat h i u hu⟩

def cat (L : Nat → List Mk) (k : Nat) : List Mk := (List.range k).flatMap L
theorem cat_succ (L : Nat → List Mk) (k : Nat) : cat L (k + 1) = cat L k ++ L k := by
  unfold cat; rw [List.range_succ, List.flatMap_append]; simp
theorem cat_le {L : Nat → List Mk} {i j : Nat} (h : i ≤ j) : (cat L i).length ≤ (cat L j).length := by
  induction h with
  | refl => exact Nat.le_refl _
  | step _ ih => rw [cat_succ, List.length_append]; omega

theorem own_cat {w : World} {base : Nat} {t : TypeId} {v : Value} {L : Nat → List Mk} {k : Nat} (h : w.ownsRow base t 3 v ((cat L k).length + (L k).length) (flat (cat L k) ++ flat (L k))) : w.ownsRow base t 3 v (cat L (k + 1)).length (flat (cat L (k + 1))) := by
  rw [cat_succ, List.length_append, flat_append]; exact h

end Nf
end Go.Proofs.YtllcmfbkingfdaaDoor
/- What checkSeen answers, of the dots that a join saw. -/
namespace Go.Proofs.YtllcmfbkingfdaaDoor
namespace Nj
set_option linter.unusedVariables false
open Go.ChangeShapes Go.WideShapes Go.ChangeAt Go.RowKit Cm Ka Kb Na Nb Nc Nd
open La (bel bel_drew errV_zero errV_ne own_ge own_grow own_below)

theorem dotsE_fault : ∀ {s : List Dt} {k : Nat}, k < s.length → (∀ j, j < k → dotE (s.getD j noneD).1 (s.getD j noneD).2 = 0) → dotE (s.getD k noneD).1 (s.getD k noneD).2 ≠ 0 → dotsE s = dotE (s.getD k noneD).1 (s.getD k noneD).2 := by
  intro s k hk h1 h2
  have key : ∀ (s : List Dt) (k : Nat), k < s.length → (∀ j, j < k → dotE (s.getD j noneD).1 (s.getD j noneD).2 = 0) → dotE (s.getD k noneD).1 (s.getD k noneD).2 ≠ 0 → s.find? (fun d => decide (dotE d.1 d.2 ≠ 0)) = some (s.getD k noneD) := by
    intro s
    induction s with
    | nil => intro k hk; simp at hk
    | cons y s ih =>
      intro k hk h1 h2
      cases k with
      | zero =>
        have h3 : dotE y.1 y.2 ≠ 0 := h2
        rw [List.find?_cons_of_pos (by simpa using h3)]; rfl
      | succ k =>
        have h3 : dotE y.1 y.2 = 0 := h1 0 (by omega)
        rw [List.find?_cons_of_neg (by simpa using h3)]
        exact ih k (by simpa using hk) (fun j hj => h1 (j + 1) (by omega)) h2
  unfold dotsE
  rw [key s k hk h1 h2]
theorem all_zero {s : List Dt} (h : ∀ j, j < s.length → dotE (s.getD j noneD).1 (s.getD j noneD).2 = 0) : ∀ d ∈ s, dotE d.1 d.2 = 0 := by
  intro d hd
  obtain ⟨j, hj, e⟩ := List.mem_iff_getElem.1 hd
  have := h j hj
  rw [List.getD_eq_getElem?_getD, List.getElem?_eq_getElem hj] at this
  simp only [Option.getD_some] at this
  rw [e] at this; exact this
theorem dotsE_cases {s : List Dt} (h : ∀ d ∈ s, dotE d.1 d.2 = 0) : dotsE s = 0 ∨ dotsE s = 7 := by
  unfold dotsE
  cases hf : s.find? (fun d => decide (dotE d.1 d.2 ≠ 0)) with
  | some d =>
    have h1 := List.mem_of_find?_eq_some hf
    have h2 := List.find?_some hf
    simp only [decide_eq_true_eq] at h2
    exact absurd (h d h1) h2
  | none => simp only []; split <;> simp
theorem dotsE_seven {s : List Dt} {m : Nat} (h : ∀ d ∈ s, dotE d.1 d.2 = 0) (hm : m + 1 < s.length) (h2 : dlt (s.getD m noneD) (s.getD (m + 1) noneD) = false) : dotsE s = 7 := by
  rcases dotsE_cases h with e | e
  · have hr := (dotsE_zero.1 e).2
    have h3 := (rise_steps dlt_strict).1 hr m hm (s.getD m noneD) (s.getD (m + 1) noneD) (by rw [List.getD_eq_getElem?_getD, List.getElem?_eq_getElem (by omega)]; rfl) (by rw [List.getD_eq_getElem?_getD, List.getElem?_eq_getElem hm]; rfl)
    rw [h2] at h3; cases h3
  · exact e
theorem dotsE_ok {s : List Dt} (h : ∀ d ∈ s, dotE d.1 d.2 = 0) (h2 : ∀ m, m + 1 < s.length → dlt (s.getD m noneD) (s.getD (m + 1) noneD) = true) : dotsE s = 0 := by
  refine dotsE_zero.2 ⟨h, (rise_steps dlt_strict).2 fun i hi a b ha hb => ?_⟩
  have := h2 i hi
  rw [List.getD_eq_getElem?_getD, List.getD_eq_getElem?_getD, ha, hb] at this
  exact this
/- what is asked of the dots that a join saw -/
def sawE (l : List Dt) : Int := if 40 < l.length then 4 else dotsE l
theorem sawE_zero {s : List Dt} (h1 : s.length ≤ 40) (h2 : dotsE s = 0) : sawE s = 0 := by unfold sawE; rw [if_neg (by omega), h2]
theorem new_cellD {w w2 : World} {x : Dt} {t : TypeId} (hb : Below (w.alloc (.cells #[.int .i64 x.1, .int .i64 x.2] t)).heap.size (w.alloc (.cells #[.int .i64 x.1, .int .i64 x.2] t)) w2) :
    w2.cell? ⟨w.heap.size, 0, none⟩ = some (.int .i64 x.1) ∧ w2.cell? ⟨w.heap.size, 1, none⟩ = some (.int .i64 x.2) := by
  have hlt : w.heap.size < (w.alloc (.cells #[.int .i64 x.1, .int .i64 x.2] t)).heap.size := by simp
  have h2 : (w.alloc (.cells #[.int .i64 x.1, .int .i64 x.2] t)).heap[w.heap.size]? = some (.cells #[.int .i64 x.1, .int .i64 x.2] t) := heap_alloc_new w _
  refine ⟨(hb.cell (p := ⟨w.heap.size, 0, none⟩) hlt).trans ?_, (hb.cell (p := ⟨w.heap.size, 1, none⟩) hlt).trans ?_⟩ <;> (simp only [World.cell?, h2]; rfl)

end Nj
end Go.Proofs.YtllcmfbkingfdaaDoor
/- When two dots, two marks are the same; what slices.Index, slices.Contains, the closure of Join and slices.IndexFunc with it answer; what clear does to a row of structs. -/
namespace Go.Proofs.YtllcmfbkingfdaaDoor
namespace Nk
set_option linter.unusedVariables false
open Go.ChangeShapes Go.WideShapes Go.ChangeAt Go.RowKit Cm Ka Kb Na Nb Nc Nd Nj
open La (bel bel_drew errV_zero errV_ne own_ge own_grow own_below)

theorem dot_same {n m a b : Int} : decide (((n, a) : Dt) = (m, b)) = (n == m && a == b) := by
  rw [Bool.eq_iff_iff]; simp
theorem mark_same {s t : ByteArray} {n m a b : Int} : decide (((s, (n, a)) : Mk) = (t, (m, b))) = (s.toList == t.toList && (n == m && a == b)) := by
  rw [Bool.eq_iff_iff]
  simp only [decide_eq_true_eq, Bool.and_eq_true, beq_iff_eq]
  constructor
  · intro h; injection h with h1 h2; injection h2 with h2 h3; exact ⟨by rw [h1], h2, h3⟩
  · rintro ⟨h1, rfl, rfl⟩; rw [Bm.bytes_inj h1]
theorem eql_dot (n m a b : Int) (w : World) : (binOp .eql 69 (.agg #[.int .i64 n, .int .i64 a]) (.agg #[.int .i64 m, .int .i64 b])).run Tryd.prog w = .ok (.bool (decide (((n, a) : Dt) = (m, b)))) w := by
  have u3 := Tryd.underlying3
  have a3 := Tryd.isAgg3
  have z3 := Tryd.sizeOf3
  have hS : Tryd.prog.underlying 69 = some (.struct (Tryd.prog.fieldsOf 69)) := by kernel_rfl
  have hp : Tryd.prog.stoodInHeld 69 = false := by kernel_rfl
  rw [run_eql_struct, show (10000 : Nat) = 9999 + 1 from rfl, run_equalIn_agg w 9999 69 _ _ hS hp]
  simp only [Program.fieldsOf, Tryd.underlying69]
  rw [dot_same]
  go_simp
  by_cases h2 : n = m <;> by_cases h3 : a = b <;> simp [h2, h3]

/- slices.Index of a dot: where it is, or below 0 -/
/- is a mark one that was seen at a place? -/
def gone (p : ByteArray) (s : List Dt) (x : Mk) : Bool := decide (x.1 = p) && decide (x.2 ∈ s)
end Nk
end Go.Proofs.YtllcmfbkingfdaaDoor
/- What slices.IndexFunc and slices.DeleteFunc with the closure of Join answer; what clear does to a row of structs. -/
namespace Go.Proofs.YtllcmfbkingfdaaDoor
namespace Nl
set_option linter.unusedVariables false
open Go.ChangeShapes Go.WideShapes Go.ChangeAt Go.RowKit Cm Ka Kb Na Nb Nc Nd Nj Nk
open La (bel bel_drew errV_zero errV_ne own_ge own_grow own_below)

/- clear of a slice of n elements, however many cells each has -/
theorem run_clear {P : Program} (w : World) (t e ty : TypeId) (z : Value) (ht : P.underlying t = some (.slice e)) (hv : ∀ w, (zeroValue e).run P w = .ok z w) (h0 : 0 < z.cells.size) (h1 : ∀ u ∈ z.cells.toList, u.oneCell' = true) (b o n c : Nat) (hn : 0 < n)
    (hc : ∀ j, j < n * z.cells.size → (w.cell? ⟨b, o + j, none⟩).isSome = true) (hf : ∀ j, w.frozen? ⟨b, j, none⟩ = false) :
    (Builtin.clear_ #[t] ty #[.slice (some ⟨b, o, none⟩) n c]).run P w = .ok (.tuple #[]) (w.setCells b o (Builtin.zeroCells z.cells n).toList) := by
  have hlen : (Builtin.zeroCells z.cells n).toList.length = n * z.cells.size := by rw [Array.length_toList, size_zeroCells]
  have hone : ∀ v ∈ (Builtin.zeroCells z.cells n).toList, v.oneCell' = true := by
    intro v hv
    simp only [Builtin.zeroCells, Array.toList_map, List.mem_map] at hv
    obtain ⟨i, _, rfl⟩ := hv
    have hi : i % z.cells.size < z.cells.size := Nat.mod_lt _ h0
    rw [getElem!_pos z.cells _ hi]
    exact h1 _ (by rw [Array.mem_toList_iff]; exact Array.getElem_mem hi)
  have hst := run_storeCells_cells (P := P) b o (Builtin.zeroCells z.cells n).toList 0 w (by intro j hj; rw [hlen] at hj; exact hc j hj) (by intro j _; exact hf _) hone
  simp only [Nat.add_zero] at hst
  obtain ⟨m, rfl⟩ : ∃ m, n = m + 1 := ⟨n - 1, by omega⟩
  simp [Builtin.clear_, run_underlying ht, hv, hst]
theorem below_setCells {B b : Nat} {a : World} (hb : B ≤ b) : ∀ (vs : List Value) (o : Nat) (w : World), Below B a w → Below B a (w.setCells b o vs)
  | [], _, _, h => h
  | v :: r, o, w, h => below_setCells hb r (o + 1) _ (h.setCell (p := ⟨b, o, none⟩) hb v)

/- where the first mark is that was seen; -1 if there is none -/
def FirstAt (p : ByteArray) (s : List Dt) (l : List Mk) (z : Int) : Prop := (z = -1 ∧ ∀ j, j < l.length → gone p s (l.getD j none1) = false) ∨ ∃ k : Nat, k < l.length ∧ z = k ∧ gone p s (l.getD k none1) = true ∧ ∀ j, j < k → gone p s (l.getD j none1) = false

end Nl
end Go.Proofs.YtllcmfbkingfdaaDoor
/- What slices.Compact answers, of a row of texts of the call's own. -/
namespace Go.Proofs.YtllcmfbkingfdaaDoor
namespace Nr
set_option linter.unusedVariables false
open Go.ChangeShapes Go.WideShapes Go.ChangeAt Go.RowKit Cm Ka Kb Na Nb Nc Nd Nl
open La (bel bel_drew errV_zero errV_ne own_ge own_grow own_below)

def noS : ByteArray := ByteArray.empty
/- texts as a value -/
def StsAt (w : World) (v : Value) (l : List ByteArray) : Prop := ∃ p c, v = .slice p l.length c ∧ (l = [] ∨ ∃ b o, p = some ⟨b, o, none⟩ ∧ ∀ j, j < l.length → w.cell? ⟨b, o + j, none⟩ = some (.string (l.getD j noS)))
theorem StsAt.nil (w : World) : StsAt w (.slice none 0 0) [] := ⟨none, 0, rfl, Or.inl rfl⟩
theorem StsAt.below {w w' : World} {v : Value} {l : List ByteArray} (h : StsAt w v l) (hb : Below w.heap.size w w') : StsAt w' v l := by
  obtain ⟨p, c, h1, h2⟩ := h
  refine ⟨p, c, h1, ?_⟩
  rcases h2 with h2 | ⟨b, o, h3, h4⟩
  · exact Or.inl h2
  · exact Or.inr ⟨b, o, h3, fun j hj => keep_cell hb (h4 j hj)⟩
/- each once: of the first k texts those that are not the same as the one ahead -/
def compTo (l : List ByteArray) : Nat → List ByteArray
  | 0 => []
  | k + 1 => if k = 0 ∨ l.getD k noS ≠ l.getD (k - 1) noS then compTo l k ++ [l.getD k noS] else compTo l k
theorem takeS {l : List ByteArray} {k : Nat} (hk : k < l.length) : l.take (k + 1) = l.take k ++ [l.getD k noS] := by
  rw [List.getD_eq_getElem?_getD, List.getElem?_eq_getElem hk, List.take_add_one, List.getElem?_eq_getElem hk]; rfl
theorem compTo_all {l : List ByteArray} : ∀ {k : Nat}, k ≤ l.length → (∀ j, 1 ≤ j → j < k → l.getD j noS ≠ l.getD (j - 1) noS) → compTo l k = l.take k
  | 0, _, _ => rfl
  | k + 1, hk, h => by
    rw [compTo, if_pos, compTo_all (by omega) (fun j h1 h2 => h j h1 (by omega)), takeS (by omega)]
    by_cases h0 : k = 0
    · exact Or.inl h0
    · exact Or.inr (h k (by omega) (by omega))
theorem compTo_same {l : List ByteArray} {k : Nat} (hk : 0 < k) (h : l.getD k noS = l.getD (k - 1) noS) : compTo l (k + 1) = compTo l k := by
  rw [compTo, if_neg]; rintro (e | e)
  · omega
  · exact e h
theorem compTo_next {l : List ByteArray} {k : Nat} (h : l.getD k noS ≠ l.getD (k - 1) noS) : compTo l (k + 1) = compTo l k ++ [l.getD k noS] := by
  rw [compTo, if_pos (Or.inr h)]
theorem compTo_le (l : List ByteArray) : ∀ k, (compTo l k).length ≤ k
  | 0 => Nat.le_refl _
  | k + 1 => by
    have := compTo_le l k
    rw [compTo]; split
    · rw [List.length_append]; simp; omega
    · omega

def SRow (w : World) (g n i j : Nat) (K : List ByteArray) (l : List ByteArray) : Prop := ∃ R : List ByteArray, R.length = n ∧ (∀ x, x < R.length → w.cell? ⟨g, x, none⟩ = some (.string (R.getD x noS))) ∧ R.take i = K ∧ R.drop j = l.drop j
theorem SRow.below {w w' : World} {g n i j : Nat} {K l : List ByteArray} (h : SRow w g n i j K l) (hb : Below w.heap.size w w') : SRow w' g n i j K l := by
  obtain ⟨R, h1, h2, h3, h4⟩ := h
  exact ⟨R, h1, fun x hx => keep_cell hb (h2 x hx), h3, h4⟩
theorem SRow.at {w : World} {g n i j : Nat} {K l : List ByteArray} (h : SRow w g n i j K l) {x : Nat} (hj : j ≤ x) (hx : x < n) : w.cell? ⟨g, x, none⟩ = some (.string (l.getD x noS)) := by
  obtain ⟨R, h1, h2, _, h4⟩ := h
  have e : R.getD x noS = l.getD x noS := by
    have e1 : (R.drop j)[x - j]? = (l.drop j)[x - j]? := by rw [h4]
    rw [List.getElem?_drop, List.getElem?_drop, show j + (x - j) = x by omega] at e1
    rw [List.getD_eq_getElem?_getD, List.getD_eq_getElem?_getD, e1]
  rw [← e]; exact h2 x (by omega)
theorem SRow.any {w : World} {g n i j : Nat} {K l : List ByteArray} (h : SRow w g n i j K l) {x : Nat} (hx : x < n) : ∃ y, w.cell? ⟨g, x, none⟩ = some (.string y) := by
  obtain ⟨R, h1, h2, _, _⟩ := h
  exact ⟨_, h2 x (by omega)⟩
theorem SRow.skip {w : World} {g n i j : Nat} {K l : List ByteArray} (h : SRow w g n i j K l) : SRow w g n i (j + 1) K l := by
  obtain ⟨R, h1, h2, h3, h4⟩ := h
  refine ⟨R, h1, h2, h3, ?_⟩
  have := congrArg (List.drop 1) h4
  rwa [List.drop_drop, List.drop_drop] at this
theorem SRow.put {w : World} {g n i j : Nat} {K l : List ByteArray} {x : ByteArray} (h : SRow w g n i j K l) (hij : i ≤ j) (hi : i < n) :
    SRow (w.setCell ⟨g, i, none⟩ (.string x)) g n (i + 1) (j + 1) (K ++ [x]) l := by
  obtain ⟨R, h1, h2, h3, h4⟩ := h
  refine ⟨R.set i x, by rw [List.length_set]; exact h1, ?_, ?_, ?_⟩
  · intro y hy
    rw [List.length_set] at hy
    by_cases e : y = i
    · subst e
      rw [World.cell?_setCell_same _ _ _ (h2 y hy), List.getD_eq_getElem?_getD, List.getElem?_set_self hy]; rfl
    · rw [World.cell?_setCell_other _ _ _ _ (by intro e2; injection e2; omega), h2 y hy, List.getD_eq_getElem?_getD, List.getD_eq_getElem?_getD, List.getElem?_set_ne (by omega)]
  · rw [← h3, takeS (by rw [List.length_set]; omega), List.take_set_of_le (Nat.le_refl _)]
    congr 1
    rw [List.getD_eq_getElem?_getD, List.getElem?_set_self (by omega)]; rfl
  · rw [List.drop_set_of_lt (by omega)]
    have := congrArg (List.drop 1) h4
    rwa [List.drop_drop, List.drop_drop] at this

theorem zero_text (w : World) : (zeroValue 9).run Tryd.prog w = .ok (.string ⟨#[]⟩) w := by kernel_rfl
theorem clear_texts (w : World) (g i n c : Nat) (ty : TypeId) (hi : i < n) (hc : ∀ k, k < n → (w.cell? ⟨g, k, none⟩).isSome = true) (hf : ∀ o, w.frozen? ⟨g, o, none⟩ = false) :
    (Builtin.clear_ #[55] ty #[.slice (some ⟨g, i, none⟩) (n - i) (c - i)]).run Tryd.prog w = .ok (.tuple #[]) (w.setCells g i (Builtin.zeroCells (Value.string ⟨#[]⟩).cells (n - i)).toList) :=
  run_clear w 55 9 ty (.string ⟨#[]⟩) Tryd.underlying55 zero_text (by decide) (by intro u hu; simp [Value.cells] at hu; subst hu; rfl) g i (n - i) (c - i) (by omega)
    (fun j hj => hc _ (by have : (Value.string ⟨#[]⟩).cells.size = 1 := rfl; rw [this] at hj; omega)) hf

set_option maxRecDepth 100000 in
set_option maxHeartbeats 4000000 in
theorem compact_any (W0 w : World) (g n c : Nat) (l : List ByteArray) (hl : l.length = n) (hcs : ∀ j, j < l.length → w.cell? ⟨g, j, none⟩ = some (.string (l.getD j noS))) (hfr : ∀ o, w.frozen? ⟨g, o, none⟩ = false) (hg : W0.heap.size ≤ g) (hb0 : Below W0.heap.size W0 w) (hn : n ≤ 1000) (hnc : n ≤ c) (hcm : c ≤ 1000) :
    Calls Tryd.prog 69 #[.slice (some ⟨g, 0, none⟩) n c] w fun e w' => ∃ v', e = .returned v' ∧ StsAt w' v' (compTo l n) ∧ Below W0.heap.size W0 w' := by
  have HL : Hid (l.length = n) := hl
  have HR : Hid (SRow w g n 0 0 [] l) := ⟨l, hl, hcs, rfl, rfl⟩
  have HF : Hid (∀ o, w.frozen? ⟨g, o, none⟩ = false) := hfr
  have HB0 : Hid (Below W0.heap.size W0 w) := hb0
  have HGL : Hid (W0.heap.size ≤ g) := hg
  have HALL : Hid (∀ wr, SRow wr g n 0 0 [] l → (∀ j, 1 ≤ j → j < n → l.getD j noS ≠ l.getD (j - 1) noS) → StsAt wr (.slice (some ⟨g, 0, none⟩) n c) (compTo l n)) := by
    intro wr hrow hne
    rw [compTo_all (by omega) hne, List.take_of_length_le (by omega)]
    obtain ⟨R, h1, h2, _, h4⟩ := hrow
    have e : R = l := by simpa using h4
    subst e
    exact ⟨some ⟨g, 0, none⟩, c, by rw [hl], Or.inr ⟨g, 0, rfl, fun j hj => by rw [Nat.zero_add]; exact h2 j hj⟩⟩
  clear hl hcs hfr hg hb0
  by_cases hn2 : n < 2
  · have hn2z : (n : Int) < 2 := by omega
    have HA : Hid (StsAt w (.slice (some ⟨g, 0, none⟩) n c) (compTo l n)) := HALL.out w HR.out (fun j h1 h2 => by omega)
    go_enter Tryd.func69, Tryd.ntmps69
    go_wp2_with fail
    go_ret
    exact ⟨_, rfl, HA.out, HB0.out⟩
  · have hn2z : ¬ (n : Int) < 2 := by omega
    go_enter Tryd.func69, Tryd.ntmps69
    go_wp2_with fail
    go_loopw [3] (fun vk wr => ∃ k : Nat, 1 ≤ k ∧ k ≤ n ∧ vk = .int .i64 k ∧ Hid (∀ j, 1 ≤ j → j < k → l.getD j noS ≠ l.getD (j - 1) noS) ∧ Hid (SRow wr g n 0 0 [] l) ∧ Hid (∀ o, wr.frozen? ⟨g, o, none⟩ = false) ∧ Hid (Below W0.heap.size W0 wr)) (fun vk _ => n - (intOf vk).toNat)
    case atStart => exact ⟨1, by omega, by omega, rfl, fun j h1 h2 => by omega, HR, HF, HB0⟩
    case round =>
      clear HR HF HB0
      obtain ⟨k, hk1, hkn, rfl, HN, HR, HF, HB⟩ := hrel
      by_cases hlt : k < n
      · have hltz : (k : Int) < n := by omega
        obtain ⟨m, hm⟩ : ∃ m, m + 1 = k := ⟨k - 1, by omega⟩
        have hkm : IntKind.i64.wrap ((k : Int) - 1) = (m : Int) := by rw [show (k : Int) - 1 = (m : Int) by omega]; exact wrap_in (by omega) (by omega)
        have hmz : (m : Int) < n := by omega
        have a1 := HR.out.at (Nat.zero_le k) hlt
        have a0 := HR.out.at (x := m) (Nat.zero_le m) (by omega)
        have HM : Hid (k - 1 = m) := by unfold Hid; omega
        by_cases hxy : l.getD k noS = l.getD m noS
        · have HS : Hid (compTo l (k + 1) = l.take k) := by
            unfold Hid; rw [compTo_same (by omega) (by rw [HM.out]; exact hxy), compTo_all (by rw [HL.out]; omega) HN.out]
          rw [hxy] at a1
          obtain ⟨y, hy⟩ : ∃ y, y = l.getD m noS := ⟨_, rfl⟩
          rw [← hy] at a0 a1
          have hkc : ¬ c = k := by omega
          have hkcz : (k : Int) ≤ c := by omega
          have hknz : (k : Int) ≤ n := by omega
          have HR2 : Hid (∀ wq, SRow wq g n 0 0 [] l → SRow wq g n k k (compTo l (k + 1)) l) := by
            intro wq hrow
            obtain ⟨R, h1, h2, _, h4⟩ := hrow
            have e : R = l := by simpa using h4
            subst e
            exact ⟨R, h1, h2, HS.out.symm, rfl⟩
          have HSL : Hid ((compTo l (k + 1)).length = k) := by unfold Hid; rw [HS.out, List.length_take, HL.out]; omega
          clear hxy hy HALL
          go_wp2_with fail
          go_quiet (fail)
          generalize hwq : World.drewN _ _ = wq
          have HRQ : Hid (SRow wq g n 0 0 [] l) := by rw [← hwq]; exact HR.out
          have HFQ : Hid (∀ o, wq.frozen? ⟨g, o, none⟩ = false) := by rw [← hwq]; exact HF.out
          have HBQ : Hid (Below W0.heap.size W0 wq) := by rw [← hwq]; exact bel_drew HB.out _
          clear hwq a0 a1 HR HF HB
          go_wp2_with fail
          generalize hN2 : n - k = N2
          generalize hC2 : c - k = c2
          have HN2 : Hid (k + N2 = n) := by unfold Hid; omega
          have hN2s : N2 ≤ 1000 := by omega
          have hN21 : 1 ≤ N2 := by omega
          clear hN2 hC2
          go_loopw [3, 5] (fun vk vj wr => ∃ i j : Nat, 1 ≤ j ∧ j ≤ N2 ∧ i + 1 ≤ k + j ∧ vk = .int .i64 i ∧ vj = .int .i64 j ∧ Hid ((compTo l (k + j)).length = i ∧ SRow wr g n i (k + j - 1) (compTo l (k + j)) l) ∧ Hid (∀ o, wr.frozen? ⟨g, o, none⟩ = false) ∧ Hid (Below W0.heap.size W0 wr)) (fun _ vj _ => N2 - (intOf vj).toNat)
          case atStart => exact ⟨k, 1, by omega, by omega, by omega, rfl, rfl, ⟨HSL.out, by rw [Nat.add_sub_cancel]; exact HR2.out _ HRQ.out⟩, HFQ, HBQ⟩
          case round =>
            clear HRQ HFQ HBQ HR2 HSL HS
            obtain ⟨i, j, hj1, hjN, hij, rfl, rfl, HRR, HF, HB⟩ := hrel
            have HNN := HN2.out
            by_cases hjlt : j < N2
            · have hjz : (j : Int) < N2 := by omega
              obtain ⟨m2, hm2⟩ : ∃ m2, m2 + 1 = j := ⟨j - 1, by omega⟩
              have hjm : IntKind.i64.wrap ((j : Int) - 1) = (m2 : Int) := by rw [show (j : Int) - 1 = (m2 : Int) by omega]; exact wrap_in (by omega) (by omega)
              have hm2z : (m2 : Int) < N2 := by omega
              have a1 := HRR.out.2.at (x := k + j) (by omega) (by omega)
              have a0 := HRR.out.2.at (x := k + m2) (by omega) (by omega)
              have HKJ : Hid (k + j - 1 = k + m2 ∧ k + j - 1 + 1 = k + j ∧ k + (j + 1) - 1 = k + j) := ⟨by omega, by omega, by omega⟩
              by_cases hxy : l.getD (k + j) noS = l.getD (k + m2) noS
              · have HS : Hid (compTo l (k + (j + 1)) = compTo l (k + j)) := by
                  unfold Hid; exact compTo_same (k := k + j) (by omega) (by rw [HKJ.out.1]; exact hxy)
                have HR2 : Hid (∀ wq, SRow wq g n i (k + j - 1) (compTo l (k + j)) l → (compTo l (k + (j + 1))).length = i ∧ SRow wq g n i (k + (j + 1) - 1) (compTo l (k + (j + 1))) l) := by
                  intro wq hrow
                  rw [HS.out, HKJ.out.2.2]
                  refine ⟨HRR.out.1, ?_⟩
                  have h9 := hrow.skip
                  rw [HKJ.out.2.1] at h9; exact h9
                rw [hxy] at a1
                obtain ⟨y, hy⟩ : ∃ y, y = l.getD (k + m2) noS := ⟨_, rfl⟩
                rw [← hy] at a0 a1
                clear hxy hy HNN
                go_wp2_with fail
                go_quiet (fail)
                generalize hwq : World.drewN _ _ = wq
                have HRQ : Hid (SRow wq g n i (k + j - 1) (compTo l (k + j)) l) := by rw [← hwq]; exact HRR.out.2
                have HFQ : Hid (∀ o, wq.frozen? ⟨g, o, none⟩ = false) := by rw [← hwq]; exact HF.out
                have HBQ : Hid (Below W0.heap.size W0 wq) := by rw [← hwq]; exact bel_drew HB.out _
                clear hwq a0 a1 HF HB HRR
                go_wp2_with fail
                go_roundw
                case rel => exact ⟨i, j + 1, by omega, by omega, by omega, rfl, by go_num, HR2.out _ HRQ.out, HFQ, HBQ⟩
                case measure => simp [intOf]; omega
              · have HS : Hid (compTo l (k + (j + 1)) = compTo l (k + j) ++ [l.getD (k + j) noS]) := by
                  unfold Hid; exact compTo_next (k := k + j) (by rw [HKJ.out.1]; exact hxy)
                have hin : i < n := by omega
                have hinz : (i : Int) < n := by omega
                obtain ⟨x, hx⟩ : ∃ x, x = l.getD (k + j) noS := ⟨_, rfl⟩
                obtain ⟨y, hy⟩ : ∃ y, y = l.getD (k + m2) noS := ⟨_, rfl⟩
                rw [← hx] at a1 hxy HS
                rw [← hy] at a0 hxy
                have HR2 : Hid (∀ wq, SRow wq g n i (k + j - 1) (compTo l (k + j)) l → (compTo l (k + (j + 1))).length = i + 1 ∧ SRow (wq.setCell ⟨g, i, none⟩ (.string x)) g n (i + 1) (k + (j + 1) - 1) (compTo l (k + (j + 1))) l) := by
                  intro wq hrow
                  rw [HS.out, HKJ.out.2.2]
                  refine ⟨by rw [List.length_append, HRR.out.1]; rfl, ?_⟩
                  have h9 := hrow.put (x := x) (by omega) hin
                  rw [HKJ.out.2.1] at h9; exact h9
                have hne : ¬ x.toList = y.toList := fun e => hxy (Bm.bytes_inj e)
                have hnb : (x.toList == y.toList) = false := by simpa using hne
                clear hxy hy hx HNN hne
                go_wp2_with fail
                go_quiet (fail)
                generalize hwq : World.drewN _ _ = wq
                have HRQ : Hid (SRow wq g n i (k + j - 1) (compTo l (k + j)) l) := by rw [← hwq]; exact HRR.out.2
                have HFQ : Hid (∀ o, wq.frozen? ⟨g, o, none⟩ = false) := by rw [← hwq]; exact HF.out
                have HBQ : Hid (Below W0.heap.size W0 wq) := by rw [← hwq]; exact bel_drew HB.out _
                have a2 : wq.cell? ⟨g, k + j, none⟩ = some (.string x) := by rw [← hwq]; exact a1
                obtain ⟨z, hz⟩ := HRQ.out.any hin
                have hfz := HFQ.out i
                have HB3 : Hid (Below W0.heap.size W0 (wq.setCell ⟨g, i, none⟩ (.string x))) := HBQ.out.setCell (p := ⟨g, i, none⟩) HGL.out _
                clear hwq a0 a1 HF HB HRR
                go_wp2_with fail
                go_roundw
                case rel => exact ⟨i + 1, j + 1, by omega, by omega, by omega, by go_num, by go_num, HR2.out _ HRQ.out, fun o => by rw [World.frozen?_setCell]; exact HFQ.out o, HB3⟩
                case measure => simp [intOf]; omega
            · obtain rfl : j = N2 := by omega
              have hin : i < n := by omega
              have hiz : (i : Int) ≤ n := by omega
              have hicz : (i : Int) ≤ c := by omega
              have hci : ¬ c = i := by omega
              have hcl := fun ty => clear_texts wr g i n c ty hin (fun x hx => by obtain ⟨y, hy⟩ := HRR.out.2.any hx; rw [hy]; rfl) HF.out
              obtain ⟨Z, hZ⟩ : ∃ Z, Z = (Builtin.zeroCells (Value.string ⟨#[]⟩).cells (n - i)).toList := ⟨_, rfl⟩
              rw [← hZ] at hcl
              have HB3 : Hid (Below W0.heap.size W0 (wr.setCells g i Z)) := below_setCells HGL.out _ _ _ HB.out
              have HM3 : Hid (StsAt (wr.setCells g i Z) (.slice (some ⟨g, 0, none⟩) i c) (compTo l n)) := by
                obtain ⟨e1, R, h1, h2, h3, _⟩ := HRR.out
                rw [HNN] at e1 h3
                refine ⟨some ⟨g, 0, none⟩, c, by rw [e1], Or.inr ⟨g, 0, rfl, fun x hx => ?_⟩⟩
                rw [e1] at hx
                have e2 : (compTo l n).getD x noS = R.getD x noS := by
                  rw [← h3, List.getD_eq_getElem?_getD, List.getElem?_take_of_lt hx, ← List.getD_eq_getElem?_getD]
                rw [e2, Nat.zero_add, World.cell?_setCells_out _ _ _ _ _ (fun _ _ => Or.inl (by simp only []; omega))]
                exact h2 x (by omega)
              clear hZ HRR HNN
              go_wp2_with fail
              go_ret
              exact ⟨_, rfl, HM3.out, HB3.out⟩
        · obtain ⟨x, hx⟩ : ∃ x, x = l.getD k noS := ⟨_, rfl⟩
          obtain ⟨y, hy⟩ : ∃ y, y = l.getD m noS := ⟨_, rfl⟩
          have HN3 : Hid (∀ j, 1 ≤ j → j < k + 1 → l.getD j noS ≠ l.getD (j - 1) noS) := by
            intro j h1 h2
            rcases Nat.lt_succ_iff_lt_or_eq.1 h2 with h | rfl
            · exact HN.out j h1 h
            · rw [HM.out]; exact hxy
          rw [← hx] at a1 hxy
          rw [← hy] at a0 hxy
          have hne : ¬ x.toList = y.toList := fun e => hxy (Bm.bytes_inj e)
          have hnb : (x.toList == y.toList) = false := by simpa using hne
          clear hxy hy hx hne HN
          go_wp2_with fail
          go_quiet (fail)
          generalize hwq : World.drewN _ _ = wq
          have HRQ : Hid (SRow wq g n 0 0 [] l) := by rw [← hwq]; exact HR.out
          have HFQ : Hid (∀ o, wq.frozen? ⟨g, o, none⟩ = false) := by rw [← hwq]; exact HF.out
          have HBQ : Hid (Below W0.heap.size W0 wq) := by rw [← hwq]; exact bel_drew HB.out _
          clear hwq a0 a1 HR HF HB
          go_wp2_with fail
          go_roundw
          case rel => exact ⟨k + 1, by omega, by omega, by go_num, HN3, HRQ, HFQ, HBQ⟩
          case measure => simp [intOf]; omega
      · obtain rfl : k = n := by omega
        have HA : Hid (StsAt wr (.slice (some ⟨g, 0, none⟩) k c) (compTo l k)) := HALL.out wr HR.out HN.out
        go_wp2_with fail
        go_ret
        exact ⟨_, rfl, HA.out, HB.out⟩

end Nr
end Go.Proofs.YtllcmfbkingfdaaDoor
/- What marks.Places answers, at all marks. -/
namespace Go.Proofs.YtllcmfbkingfdaaDoor
namespace Ns
set_option linter.unusedVariables false
open Go.ChangeShapes Go.WideShapes Go.ChangeAt Go.RowKit Cm Ka Kb Na Nb Nc Nd Nse Nl Nr
open La (bel bel_drew errV_zero errV_ne own_ge own_grow own_below)

/- a row of the call's own that is filled cell by cell -/
def Fill (w : World) (g n : Nat) (F : Nat → Value) (k : Nat) (wr : World) : Prop :=
  (∀ j, j < k → wr.cell? ⟨g, j, none⟩ = some (F j)) ∧ (∀ j, j < n → ∃ v, wr.cell? ⟨g, j, none⟩ = some v) ∧ (∀ j, wr.frozen? ⟨g, j, none⟩ = false) ∧ Below w.heap.size w wr ∧ w.heap.size ≤ g
theorem Fill.start {w w1 : World} {t : TypeId} {F : Nat → Value} {n cap : Nat} {g : Nat} {xs : List Value} (hg : w.heap.size ≤ g) (h : w1.ownsRow g t 1 (.slice (some ⟨g, 0, none⟩) n cap) n xs) (hb : Below w.heap.size w w1) : Fill w g n F 0 w1 := by
  refine ⟨fun j hj => absurd hj (by omega), ?_, ?_, hb, hg⟩
  · intro j hj
    rcases h.2 with ⟨e, _⟩ | ⟨g', cap', cur, e, _, h2, h3, h4, h5, h6⟩
    · cases e
    · injection e with e1
      injection e1 with e1
      injection e1 with e1
      subst e1
      refine ⟨cur[j]'(by omega), ?_⟩
      simp only [World.cell?, h2]
      simp [show j < cur.size by omega]
  · intro j
    rcases h.2 with ⟨e, _⟩ | ⟨g', cap', cur, e, _, h2, h3, h4, h5, h6⟩
    · cases e
    · injection e with e1
      injection e1 with e1
      injection e1 with e1
      subst e1
      simp [World.frozen?, h2]
theorem Fill.step {w wr : World} {g n k : Nat} {F : Nat → Value} (h : Fill w g n F k wr) (hk : k < n) (v : Value) (hv : v = F k) : Fill w g n F (k + 1) (wr.setCell ⟨g, k, none⟩ v) := by
  obtain ⟨h1, h2, h3, h4, h5⟩ := h
  refine ⟨fun j hj => ?_, fun j hj => ?_, fun j => ?_, h4.setCell (p := ⟨g, k, none⟩) h5 _, h5⟩
  · by_cases e : j = k
    · subst e
      obtain ⟨u, hu⟩ := h2 j hk
      rw [World.cell?_setCell_same _ _ _ hu, hv]
    · rw [World.cell?_setCell_other _ _ _ _ (by intro e2; injection e2; omega)]
      exact h1 j (by omega)
  · obtain ⟨u, hu⟩ := h2 j hj
    exact cell?_setCell_some hu
  · rw [World.frozen?_setCell]; exact h3 j
theorem Fill.below {w wr w2 : World} {g n k : Nat} {F : Nat → Value} (h : Fill w g n F k wr) (hg : g < wr.heap.size) (hb : Below wr.heap.size wr w2) : Fill w g n F k w2 := by
  obtain ⟨h1, h2, h3, h4, h5⟩ := h
  refine ⟨fun j hj => ?_, fun j hj => ?_, fun j => ?_, bel h4 hb, h5⟩
  · rw [hb.cell (p := ⟨g, j, none⟩) hg]; exact h1 j hj
  · rw [hb.cell (p := ⟨g, j, none⟩) hg]; exact h2 j hj
  · rw [hb.frozen (p := ⟨g, j, none⟩) hg]; exact h3 j
theorem Fill.drew {w wr : World} {g n k : Nat} {F : Nat → Value} (h : Fill w g n F k wr) (q : Nat) : Fill w g n F k (wr.drewN q) :=
  ⟨h.1, h.2.1, h.2.2.1, bel_drew h.2.2.2.1 q, h.2.2.2.2⟩
theorem Fill.drew1 {w wr : World} {g n k : Nat} {F : Nat → Value} (h : Fill w g n F k wr) : Fill w g n F k wr.drew :=
  ⟨h.1, h.2.1, h.2.2.1, h.2.2.2.1.drew, h.2.2.2.2⟩
theorem Fill.lt {w wr : World} {g n k : Nat} {F : Nat → Value} (h : Fill w g n F k wr) (hn : 0 < n) : g < wr.heap.size := by
  obtain ⟨v, hv⟩ := h.2.1 0 hn
  exact World.block_lt_of_cell? _ _ hv

theorem made_lt {w2 : World} {g n : Nat} {t : TypeId} {xs : List Value} (h : w2.ownsRow g t 1 (.slice (some ⟨g, 0, none⟩) n n) n xs) : g < w2.heap.size := by
  rcases h.2 with ⟨e, _⟩ | ⟨g', cap', cur, e, _, h2, _⟩
  · cases e
  · injection e with e1
    injection e1 with e1
    injection e1 with e1
    subst e1
    rcases Nat.lt_or_ge g w2.heap.size with e | e
    · exact e
    · rw [Array.getElem?_eq_none e] at h2; cases h2
theorem infoStr : (Tryd.prog.info? 9).map (fun i => (i.zero, i.size, i.bytes)) = some (some (.string ⟨#[]⟩), 1, 16) := by kernel_rfl
def names (l : List Mk) : List ByteArray := l.map (·.1)
theorem names_get {l : List Mk} {j : Nat} (hj : j < l.length) : (names l).getD j noS = (l.getD j none1).1 := by
  unfold names
  rw [List.getD_eq_getElem?_getD, List.getElem?_map, List.getD_eq_getElem?_getD, List.getElem?_eq_getElem hj]; rfl
def placesOf (l : List Mk) : List ByteArray := if marksE l = 0 then compTo (names l) l.length else []

set_option maxRecDepth 100000 in
set_option maxHeartbeats 2000000 in
theorem places_ok (q : Option Addr) (n c : Nat) (l : List Mk) (w : World) (hA : MksAt w (.slice q n c) l) (hs : ∀ x ∈ l, x.1.size ≤ maxLen) (h0 : marksE l = 0) :
    Calls Tryd.prog 50 #[.slice q n c] w fun e w' => ∃ v', e = .returned (.tuple #[v', .nilIface]) ∧ StsAt w' v' (compTo (names l) l.length) ∧ Below w.heap.size w w' := by
  have C := checkM_any _ l w hA hs
  rw [h0, errV_zero] at C
  obtain ⟨hl40, _, _⟩ := marksE_zero.1 h0
  obtain ⟨q', c', hv, hlf, hcc, hcm, _⟩ := hA
  injection hv with hv1 hv2 hv3
  subst hv1 hv3
  have hn40 : n ≤ 40 := by omega
  have HL : Hid (l.length = n) := hv2.symm
  have HI : Hid (MarksIn w q l) := hlf
  obtain ⟨i0, hi, hz0, hz1, hz2⟩ := info_parts infoStr
  have hby : i0.bytes * n ≤ 281474976710656 := by rw [hz2]; omega
  have hml : n ≤ maxLen := by unfold maxLen; omega
  clear hs h0 hl40 hlf hcc hcm hv2
  go_enter Tryd.func50, Tryd.ntmps50
  go_wp2_with fail
  refine C.mono ?_
  rintro e w1 ⟨rfl, hb1⟩
  have HB1 : Hid (Below w.heap.size w w1) := hb1
  clear hb1 C
  go_wp2_with (at_make; refine wpList_make_full _ rfl (.tmp 14) (.tmp 14) 55 rfl w1.heap.size 9 i0 (.string ⟨#[]⟩) 1 Tryd.underlying55 hi hz0 hz1 .i64 .i64 (n : Int) (n : Int) n rfl rfl rfl rfl hby hml (Nat.le_refl _) ?_; intro w2 hown hgrow; have HF : Hid (Fill w w1.heap.size n (fun j => .string (l.getD j none1).1) 0 w2) := Fill.start HB1.out.size hown (HB1.out.grown hgrow HB1.out.size (fun k hk => by cases hk)); have HGL : Hid (w1.heap.size < w2.heap.size) := made_lt hown; clear hown hgrow)
  obtain ⟨g, hgg⟩ : ∃ g, g = w1.heap.size := ⟨_, rfl⟩
  rw [← hgg] at HF HGL
  rw [← hgg]
  clear hgg
  go_loopw [18] (fun vi wr => ∃ k : Nat, k ≤ n ∧ vi = .int .i64 k ∧ Hid (Fill w g n (fun j => .string (l.getD j none1).1) k wr) ∧ Hid (g < wr.heap.size)) (fun vi _ => n - (intOf vi).toNat)
  case atStart => exact ⟨0, by omega, rfl, HF, HGL⟩
  case round =>
    clear HF HGL
    obtain ⟨k, hk, rfl, HF, HGL⟩ := hrel
    by_cases hlt : k < n
    · have hltz : (k : Int) < n := by omega
      obtain ⟨b, o, rfl, hc⟩ := HI.out.some (by intro e; have := HL.out; rw [e] at this; simp at this; omega)
      have hkl : k < l.length := by rw [HL.out]; exact hlt
      have ha := (hc k hkl).below HF.out.2.2.2.1 (hc k hkl).lt
      obtain ⟨x, hx⟩ : ∃ x, x = l.getD k none1 := ⟨_, rfl⟩
      rw [← hx] at ha
      have HX : Hid (x = l.getD k none1) := hx
      obtain ⟨sx, x1, x2⟩ := x
      obtain ⟨a1, a2, a3⟩ := ha
      simp only at a1 a2 a3
      have HF1 : Hid (Fill w g n (fun j => .string (l.getD j none1).1) k (wr.alloc (.cells #[.string sx, .int .i64 x1, .int .i64 x2] 71))) := HF.out.below HGL.out ((Below.refl _ wr).alloc (Nat.le_refl _) _)
      obtain ⟨u, hu⟩ := HF1.out.2.1 k hlt
      have hf := HF1.out.2.2.1 k
      have HF2 : Hid (Fill w g n (fun j => .string (l.getD j none1).1) (k + 1) ((wr.alloc (.cells #[.string sx, .int .i64 x1, .int .i64 x2] 71)).setCell ⟨g, k, none⟩ (.string sx))) := HF1.out.step hlt _ (by rw [← HX.out])
      have HGL2 : Hid (g < ((wr.alloc (.cells #[.string sx, .int .i64 x1, .int .i64 x2] 71)).setCell ⟨g, k, none⟩ (.string sx)).heap.size) := by have := HGL.out; unfold Hid; simp; omega
      clear hc hx HF HF1
      go_wp2_with fail
      go_roundw
      case rel => exact ⟨k + 1, by omega, by go_num, HF2, HGL2⟩
      case measure => simp [intOf]; omega
    · obtain rfl : k = n := by omega
      have C2 := compact_any w wr g k k (names l) (by unfold names; rw [List.length_map]; exact HL.out) (fun j hj => by
          unfold names at hj; rw [List.length_map, HL.out] at hj
          rw [HF.out.1 j hj, names_get (by rw [HL.out]; exact hj)]) HF.out.2.2.1 HF.out.2.2.2.2 HF.out.2.2.2.1 (by omega) (Nat.le_refl _) (by omega)
      go_wp2_with fail
      refine C2.mono ?_
      rintro e w3 ⟨v3, rfl, hk3, hb3⟩
      have HB3 : Hid (Below w.heap.size w w3) := hb3
      have HK3 : Hid (StsAt w3 v3 (compTo (names l) l.length)) := by unfold Hid; rw [HL.out]; exact hk3
      clear C2 hk3 hb3
      go_wp2_with fail
      go_ret2
      exact ⟨_, rfl, HK3.out, HB3.out⟩

theorem places_any (v : Value) (l : List Mk) (w : World) (h : MksAt w v l) (hs : ∀ x ∈ l, x.1.size ≤ maxLen) :
    Calls Tryd.prog 50 #[v] w fun e w' => ∃ v', e = .returned (.tuple #[v', errV (marksE l)]) ∧ StsAt w' v' (placesOf l) ∧ Below w.heap.size w w' := by
  by_cases h0 : marksE l = 0
  · have e : placesOf l = compTo (names l) l.length := by unfold placesOf; rw [if_pos h0]
    rw [h0, e, errV_zero]
    have h2 := h
    obtain ⟨q, c, rfl, _⟩ := h2
    exact places_ok q _ c l w h hs h0
  · have e : placesOf l = [] := by unfold placesOf; rw [if_neg h0]
    have C := checkM_any v l w h hs
    rw [e]
    obtain ⟨z, hz⟩ : ∃ z, z = marksE l := ⟨_, rfl⟩
    rw [errV_ne h0, ← hz] at C ⊢
    clear h hs h0 e hz
    go_enter Tryd.func50, Tryd.ntmps50
    go_wp2_with fail
    refine C.mono ?_
    rintro e w1 ⟨rfl, hb1⟩
    have HB1 : Hid (Below w.heap.size w w1) := hb1
    clear hb1 C
    go_wp2_with fail
    go_ret2
    exact ⟨_, rfl, StsAt.nil _, HB1.out⟩

end Ns
end Go.Proofs.YtllcmfbkingfdaaDoor
