/- Blocks of the call's own that are written field by field; two bytes of a text as a number. -/
import Derived.Test.YtcmoajlcmeimiaaDoorOc
import Derived.Laws.Tables
namespace Go.Proofs.YtcmoajlcmeimiaaDoor
namespace Og
set_option linter.unusedVariables false
open Go.ChangeShapes Go.WideShapes Go.ChangeAt Go.RowKit Cm Ka Kb Na Om Oa Oz Oc
open La (bel bel_drew errV_zero errV_ne own_ge own_grow own_below)

/- only block g has been written -/
structure Only (g : Nat) (w w' : World) : Prop where
  os : w'.os = w.os
  tape : w'.tape = w.tape
  output : w'.output = w.output
  size : w'.heap.size = w.heap.size
  block : ∀ k, k ≠ g → w'.heap[k]? = w.heap[k]?
theorem Only.below {g B : Nat} {w w' : World} (h : Only g w w') (hB : B ≤ g) : Below B w w' := ⟨h.os, h.tape, h.output, Nat.le_of_eq h.size.symm, fun k hk => h.block k (by omega)⟩
theorem Only.cell {g : Nat} {w w' : World} (h : Only g w w') {p : Addr} (hp : p.block ≠ g) : w'.cell? p = w.cell? p := World.cell?_of_block (w := w) (h.block p.block hp)
theorem only_setCell (w : World) (g i : Nat) (v : Value) : Only g w (w.setCell ⟨g, i, none⟩ v) :=
  ⟨rfl, rfl, rfl, by simp [World.setCell], fun k hk => Below.heap_setCell _ _ _ _ (by simpa using hk)⟩
theorem only_setRow (w : World) (g : Nat) (cs : Array Value) : Only g w (w.setRow g cs) := by
  refine ⟨rfl, rfl, rfl, by simp [World.setRow], fun k hk => ?_⟩
  simp only [World.setRow, Array.getElem?_modify]
  rw [if_neg (fun e => hk e.symm)]
theorem setCell_heap {w : World} {g i : Nat} {v : Value} {cur : Array Value} {t : TypeId} {f : Nat × Nat} (hg : w.heap[g]? = some (.cells cur t f)) : (w.setCell ⟨g, i, none⟩ v).heap[g]? = some (.cells (cur.setIfInBounds i v) t f) := by
  simp [World.setCell, Array.getElem?_modify, hg]

theorem cell_of {w : World} {g i : Nat} {cur : Array Value} {t : TypeId} {f : Nat × Nat} (hg : w.heap[g]? = some (.cells cur t f)) {v : Value} (hv : cur[i]? = some v) : w.cell? ⟨g, i, none⟩ = some v := by
  simp only [World.cell?, hg]; exact hv
theorem free_of {w : World} {g i : Nat} {cur : Array Value} {t : TypeId} (hg : w.heap[g]? = some (.cells cur t (0, 0))) : w.frozen? ⟨g, i, none⟩ = false := by
  simp [World.frozen?, hg]

/- a store into one field -/
theorem wpList_set1 {ops : Array Oper} {rest : List Oper} {o : Oper} {a : Act} {Q : Exit → Act → World → Prop} (w : World) (hgd : o.guard = none) (x y : Operand) (ty : TypeId) (ho : o.op = .store ty x y)
    (g i : Nat) (v : Value) (hx : a.eval x = .pointer (some ⟨g, i, none⟩)) (hy : a.eval y = v) (hv : v.oneCell' = true) (hsz : (Tryd.prog.info? ty).map (·.size) = some 1)
    (t : TypeId) (cur : Array Value) (hg : w.heap[g]? = some (.cells cur t (0, 0))) (hi : i < cur.size)
    (h : ∀ w', w'.heap[g]? = some (.cells (cur.setIfInBounds i v) t (0, 0)) → Only g w w' → wpList Tryd.prog ops Q rest (a.put o.dst undef) w') :
    wpList Tryd.prog ops Q (o :: rest) a w := by
  refine wpList_plain hgd fun K hK => ?_
  have hc : v.cells = #[v] := by cases v <;> first | rfl | (simp [Value.oneCell'] at hv; done)
  have hcell : w.cell? ⟨g, i, none⟩ = some cur[i] := cell_of hg (Array.getElem?_eq_getElem hi)
  have hfr : w.frozen? ⟨g, i, none⟩ = false := free_of hg
  have hst : (storeVar ty ⟨g, i, none⟩ v).run Tryd.prog w = .ok () (w.setCell ⟨g, i, none⟩ v) := by
    cases hq : Tryd.prog.info? ty with
    | none => simp [hq] at hsz
    | some inf =>
      have hs : inf.size = 1 := by simpa [hq] using hsz
      have hst1 : (store ⟨g, i, none⟩ v).run Tryd.prog w = .ok () (w.setCell ⟨g, i, none⟩ v) := by
        rw [run_store _ _ _ _ _ hv, hcell]; simp only [hfr]; rfl
      simp [storeVar, sizeOf, typeInfo, hq, hc, hs, storeCells, Addr.add, hst1]
  unfold Oper.wp execOp
  simp only [ho, hx, hy, Instr.storeAt, Instr.sureAddr, Sem.run_bind, Sem.run_pure, Result.andThen_ok, hst]
  exact hK _ _ (h _ (setCell_heap hg) (only_setCell w g i v))
/- a store of a whole block -/
theorem wpList_setR {ops : Array Oper} {rest : List Oper} {o : Oper} {a : Act} {Q : Exit → Act → World → Prop} (w : World) (hgd : o.guard = none) (x y : Operand) (ty : TypeId) (ho : o.op = .store ty x y)
    (g : Nat) (cells : Array Value) (hx : a.eval x = .pointer (some ⟨g, 0, none⟩)) (hy : a.eval y = .agg cells)
    (t : TypeId) (old : Array Value) (hg : w.heap[g]? = some (.cells old t (0, 0))) (hi : (Tryd.prog.info? ty).map (·.size) = some cells.size)
    (hold : old.size = cells.size) (h1 : cells.all (·.oneCell') = true)
    (h : ∀ w', w'.heap[g]? = some (.cells cells t (0, 0)) → Only g w w' → wpList Tryd.prog ops Q rest (a.put o.dst undef) w') : wpList Tryd.prog ops Q (o :: rest) a w :=
  wpList_store_row hgd ty x y ho g cells hx hy t old hg hi hold h1 (h _ (setRow_heap w g old cells t (0, 0) hg) (only_setRow w g cells))
theorem szI : (Tryd.prog.info? 3).map (·.size) = some 1 := by kernel_rfl
theorem szS : (Tryd.prog.info? 9).map (·.size) = some 1 := by kernel_rfl
theorem szD : (Tryd.prog.info? 27).map (·.size) = some 1 := by kernel_rfl
theorem szO : (Tryd.prog.info? 53).map (·.size) = some 6 := by kernel_rfl

/- the number that two bytes of a text are -/
def numAt (l : List UInt8) (i : Nat) : Nat := (l.getD i 0).toNat * 256 + (l.getD (i + 1) 0).toNat
theorem numAt_le (l : List UInt8) (i : Nat) : numAt l i ≤ 65535 := by
  unfold numAt
  have h1 : (l.getD i 0).toNat < 256 := UInt8.toNat_lt _
  have h2 : (l.getD (i + 1) 0).toNat < 256 := UInt8.toNat_lt _
  omega
theorem at_list (s : ByteArray) (i : Nat) (h : i < s.size) : s.toList.getD i 0 = s[i] := by
  rw [ByteArray.toList_eq, List.getD_eq_getElem?_getD]
  have h2 : i < s.data.toList.length := h
  rw [List.getElem?_eq_getElem h2, Array.getElem_toList]; rfl
end Og
end Go.Proofs.YtcmoajlcmeimiaaDoor
