/- A map from dots to ops, as the program reads, writes and deletes in it. -/
import Derived.Test.YtnniggjeadlbgaaGreatDoorJ10
import Derived.Test.YtnniggjeadlbgaaGreatDoorJa
import Derived.Maps.RangeRun
namespace Go.Proofs.YtnniggjeadlbgaaGreatDoor
namespace Jb
set_option linter.unusedVariables false
set_option linter.unusedSimpArgs false
open Go.ChangeShapes Go.WideShapes Go.ChangeAt Go.RowKit Go.MapKept Go.ChangeMaps Cm Ka Kb Na Om Oa Oz Oc Og Oi Hm Ia Ja
open Ib (equal_dot check_key setBlock_grown born_push born_sub)
open La (bel bel_drew errV_zero errV_ne own_ge own_grow own_below Lies)

/- an op that waits, and where what it saw lies -/
abbrev Wx := Ox × Value
abbrev pw (y : Wx) : Value × Value := (aggD y.1.1, opV y.1 y.2)
def MapW (w : World) (B : Nat) (M : List Wx) : Prop := ∃ es clock, w.heap[B]? = some (.map es clock) ∧ es.toList.map pr = M.map pw ∧ Born es.toList clock
theorem MapW.stay {w w' : World} {B : Nat} {M : List Wx} (h : MapW w B M) (hs : w'.heap[B]? = w.heap[B]?) : MapW w' B M := by
  obtain ⟨es, clock, hb, h2⟩ := h
  exact ⟨es, clock, hs.trans hb, h2⟩
theorem MapW.lt {w : World} {B : Nat} {M : List Wx} (h : MapW w B M) : B < w.heap.size := by
  obtain ⟨es, clock, hb, _⟩ := h
  exact (Array.getElem?_eq_some_iff.1 hb).1
theorem MapW.below {w w' : World} {B : Nat} {M : List Wx} (h : MapW w B M) (hb : Below w.heap.size w w') : MapW w' B M := h.stay (hb.block B h.lt)
theorem MapW.noCells {w : World} {B : Nat} {M : List Wx} (h : MapW w B M) {cur : Array Value} {t : TypeId} {f : Nat × Nat} (h2 : w.heap[B]? = some (.cells cur t f)) : False := by
  obtain ⟨es, clock, hb, _⟩ := h
  rw [hb] at h2; cases h2
def opZ : Value := .agg #[.int .i64 0, .int .i64 0, .int .i64 0, .string ByteArray.empty, .int .i64 0, .slice none 0 0]
theorem zero_op (w : World) : (zeroValue 33).run Tryz.prog w = .ok opZ w := by kernel_rfl

def findW (d : Dt) : List Wx → Option (Nat × Wx)
  | [] => none
  | x :: M => if d = x.1.1 then some (0, x) else (findW d M).map fun r => (r.1 + 1, r.2)
def ridW (d : Dt) : List Wx → List Wx
  | [] => []
  | x :: M => if d = x.1.1 then M else x :: ridW d M
theorem rid_map (d : Dt) : ∀ M : List Wx, (ridW d M).map (·.1) = rid d (M.map (·.1))
  | [] => rfl
  | x :: M => by
    unfold ridW
    rw [List.map_cons]
    unfold rid
    by_cases h : d = x.1.1
    · rw [if_pos h, if_pos h]
    · rw [if_neg h, if_neg h, List.map_cons, rid_map d M]
theorem ridW_sub (d : Dt) : ∀ M : List Wx, (ridW d M).Sublist M
  | [] => List.Sublist.refl _
  | x :: M => by
    unfold ridW
    by_cases h : d = x.1.1
    · rw [if_pos h]; exact List.sublist_cons_self x M
    · rw [if_neg h]; exact (ridW_sub d M).cons_cons x
theorem find_dot (d : Dt) : ∀ M : List Wx, (findW d M).map (·.2.1) = dotIn (M.map (·.1)) d
  | [] => rfl
  | x :: M => by
    unfold findW dotIn
    rw [List.map_cons]
    by_cases h : d = x.1.1
    · rw [if_pos h, List.find?_cons_of_pos (by simp [h])]; rfl
    · rw [if_neg h, List.find?_cons_of_neg (by simp; exact fun e => h e.symm)]
      have ih := find_dot d M
      unfold dotIn at ih
      rw [← ih]
      cases findW d M with
      | none => rfl
      | some r => rfl
theorem find_mem {d : Dt} : ∀ {M : List Wx} {i : Nat} {y : Wx}, findW d M = some (i, y) → y ∈ M ∧ y.1.1 = d
  | [], i, y, h => by cases h
  | x :: M, i, y, h => by
    unfold findW at h
    by_cases e : d = x.1.1
    · rw [if_pos e] at h
      injection h with h
      injection h with h1 h2
      rw [← h2]; exact ⟨List.mem_cons_self .., e.symm⟩
    · rw [if_neg e] at h
      cases hq : findW d M with
      | none => rw [hq] at h; cases h
      | some r =>
        rw [hq] at h
        obtain ⟨j, u⟩ := r
        simp only [Option.map_some, Option.some.injEq, Prod.mk.injEq] at h
        obtain ⟨rfl, rfl⟩ := h
        obtain ⟨h1, h2⟩ := find_mem hq
        exact ⟨List.mem_cons_of_mem _ h1, h2⟩
theorem find_asking (d : Dt) (w : World) : ∀ (M : List Wx) (es : List MapEntry) (i : Nat), es.map pr = M.map pw →
    (Instr.findAsking 30 (aggD d) es i).run Tryz.prog w = .ok ((findW d M).map fun r => (i + r.1, opV r.2.1 r.2.2)) w
  | [], es, i, h => by
    have : es = [] := by simpa using h
    subst this
    rfl
  | x :: M, [], i, h => by simp at h
  | x :: M, e :: es, i, h => by
    simp only [List.map_cons, List.cons.injEq, Prod.mk.injEq] at h
    obtain ⟨⟨h1, h2⟩, h3⟩ := h
    unfold Instr.findAsking
    obtain ⟨⟨⟨x1, x2⟩, xr⟩, xv⟩ := x
    obtain ⟨d1, d2⟩ := d
    have q := equal_dot d1 d2 x1 x2 w
    simp only [aggD] at h1
    rw [h1]
    simp only [aggD, Sem.run_bind, q, Result.andThen]
    unfold findW
    by_cases hd : ((d1, d2) : Dt) = (x1, x2)
    · rw [decide_eq_true hd, if_pos rfl, if_pos hd, h2]; rfl
    · rw [decide_eq_false hd, if_neg hd]
      have ih := find_asking (d1, d2) w M es (i + 1) h3
      simp only [aggD] at ih
      rw [if_neg (by decide), ih]
      cases findW (d1, d2) M with
      | none => rfl
      | some r => simp only [Option.map_some]; rw [show i + 1 + r.1 = i + (r.1 + 1) by omega]
theorem find_key (d : Dt) (w : World) (M : List Wx) (es : List MapEntry) (h : es.map pr = M.map pw) :
    (Instr.findKey 30 (aggD d) es).run Tryz.prog w = .ok ((findW d M).map fun r => (r.1, opV r.2.1 r.2.2)) w := by
  have hS : Tryz.prog.underlying 30 = some (.struct (Tryz.prog.fieldsOf 30)) := by kernel_rfl
  have ha := find_asking d w M es 0 h
  have hz : ((findW d M).map fun r => (0 + r.1, opV r.2.1 r.2.2)) = (findW d M).map fun r => (r.1, opV r.2.1 r.2.2) := by
    cases findW d M with
    | none => rfl
    | some r => simp
  rw [hz] at ha
  unfold Instr.findKey
  rw [Sem.run_bind, run_underlying hS]
  simp only [Result.andThen]
  cases es with
  | nil =>
    have : M = [] := by simpa using h.symm
    subst this
    rfl
  | cons e es =>
    have : Instr.findNow (.struct (Tryz.prog.fieldsOf 30)) (aggD d) (e :: es) 0 = none := by
      unfold Instr.findNow
      simp [Instr.sameNow]
    rw [this]
    exact ha
theorem erase_eq {M : List Wx} {d : Dt} {i : Nat} {u : Wx} : ∀ {es : List MapEntry}, es.map pr = M.map pw → findW d M = some (i, u) → (es.eraseIdx i).map pr = (ridW d M).map pw := by
  induction M generalizing i with
  | nil => intro es h hf; cases hf
  | cons x M ih =>
    intro es h hf
    cases es with
    | nil => simp at h
    | cons e es =>
      simp only [List.map_cons, List.cons.injEq] at h
      unfold findW at hf
      unfold ridW
      by_cases hd : d = x.1.1
      · rw [if_pos hd] at hf ⊢
        injection hf with hf
        injection hf with hf1 hf2
        subst hf1
        exact h.2
      · rw [if_neg hd] at hf ⊢
        cases hq : findW d M with
        | none => rw [hq] at hf; cases hf
        | some r =>
          rw [hq] at hf
          obtain ⟨j, u2⟩ := r
          simp only [Option.map_some, Option.some.injEq, Prod.mk.injEq] at hf
          obtain ⟨rfl, rfl⟩ := hf
          rw [List.eraseIdx_cons_succ]
          simp only [List.map_cons, List.cons.injEq]
          exact ⟨h.1, ih h.2 hq⟩
theorem erase_none {M : List Wx} {d : Dt} (hf : findW d M = none) : ridW d M = M := by
  induction M with
  | nil => rfl
  | cons x M ih =>
    unfold findW at hf
    unfold ridW
    by_cases hd : d = x.1.1
    · rw [if_pos hd] at hf; cases hf
    · rw [if_neg hd] at hf ⊢
      rw [ih (by simpa using hf)]
theorem under_map : Tryz.prog.underlying 138 = some (.map 30 33) := by kernel_rfl
/- what a look-up answers: the op, or the zero value -/
def lookV (M : List Wx) (d : Dt) : Value := match findW d M with | some r => opV r.2.1 r.2.2 | none => opZ
theorem lookup_run {w : World} {B : Nat} {M : List Wx} (h : MapW w B M) (a b : Int) :
    (Instr.lookup 138 (.map (some B)) (.agg #[.int .i64 a, .int .i64 b]) true).run Tryz.prog w = .ok (.tuple #[lookV M (a, b), .bool (findW (a, b) M).isSome]) w := by
  obtain ⟨es, clock, hb, he, _⟩ := h
  have hf := find_key (a, b) w M es.toList he
  simp only [aggD] at hf
  unfold Instr.lookup lookV
  simp only [Sem.run_bind, run_underlying under_map, MapKept.run_getObj_map hb, Result.andThen, Sem.run_pure, check_key, hf]
  cases findW (a, b) M with
  | none => simp only [Option.map_none, Sem.run_bind, zero_op, Result.andThen, Sem.run_pure]; rfl
  | some r => rfl
theorem update_run {w : World} {B : Nat} {M : List Wx} (h : MapW w B M) (x : Ox) (v : Value) (hn : findW x.1 M = none) :
    ∃ w', (Instr.mapUpdate 138 (.map (some B)) (.agg #[.int .i64 x.1.1, .int .i64 x.1.2]) (.agg #[.int .i64 x.1.1, .int .i64 x.1.2, .int .i64 x.2.1, .string x.2.2.1, .int .i64 x.2.2.2.1, v])).run Tryz.prog w = .ok () w' ∧ MapW w' B (M ++ [(x, v)]) ∧ w.grownBy w' (some B) := by
  obtain ⟨es, clock, hb, he, hbn⟩ := h
  have hf := find_key x.1 w M es.toList he
  rw [hn] at hf
  simp only [aggD, Option.map_none] at hf
  unfold Instr.mapUpdate
  simp only [Sem.run_bind, run_underlying under_map, MapKept.run_getObj_map hb, Result.andThen, Sem.run_pure, check_key, hf, MapKept.run_setObj_map _ hb]
  refine ⟨_, rfl, ⟨_, _, heap_setBlock_same hb _, ?_, ?_⟩, setBlock_grown hb _⟩
  · rw [Array.toList_push, List.map_append, he, List.map_append]; rfl
  · rw [Array.toList_push]; exact born_push hbn
theorem delete_run {w : World} {B : Nat} {M : List Wx} (h : MapW w B M) (a b : Int) (ty : TypeId) :
    ∃ w', (Builtin.delete_ #[138, 30] ty #[.map (some B), .agg #[.int .i64 a, .int .i64 b]]).run Tryz.prog w = .ok (.tuple #[]) w' ∧ MapW w' B (ridW (a, b) M) ∧ w.grownBy w' (some B) := by
  obtain ⟨es, clock, hb, he, hbn⟩ := h
  have hf := find_key (a, b) w M es.toList he
  simp only [aggD] at hf
  have hn : ∀ (v : Value), (#[Value.map (some B), v])[0]? = some (.map (some B)) ∧ (#[Value.map (some B), v])[1]? = some v := fun v => ⟨rfl, rfl⟩
  unfold Builtin.delete_
  simp only [(hn _).1, (hn _).2, show (#[(138 : TypeId), 30])[0]? = some 138 from rfl, Sem.run_bind, run_underlying under_map, MapKept.run_getObj_map hb, Result.andThen, Sem.run_pure, check_key, hf]
  cases hq : findW (a, b) M with
  | none =>
    simp only [Option.map_none, MapKept.run_setObj_map _ hb, Result.andThen, Sem.run_bind, Sem.run_pure]
    refine ⟨_, rfl, ⟨_, _, heap_setBlock_same hb _, ?_, hbn⟩, setBlock_grown hb _⟩
    rw [erase_none hq]; exact he
  | some r =>
    obtain ⟨i, u⟩ := r
    simp only [Option.map_some, MapKept.run_setObj_map _ hb, Result.andThen, Sem.run_bind, Sem.run_pure]
    refine ⟨_, rfl, ⟨_, _, heap_setBlock_same hb _, ?_, ?_⟩, setBlock_grown hb _⟩
    · rw [Array.toList_eraseIdxIfInBounds]; exact erase_eq he hq
    · rw [Array.toList_eraseIdxIfInBounds]; exact born_sub (List.eraseIdx_sublist _ _) hbn
theorem len_run {w : World} {B : Nat} {M : List Wx} (h : MapW w B M) (ty : TypeId) :
    (Builtin.len_ #[138] ty #[.map (some B)]).run Tryz.prog w = .ok (.int .i64 M.length) w := by
  obtain ⟨es, clock, hb, he, hbn⟩ := h
  have hl : es.size = M.length := by have := congrArg List.length he; simpa using this
  unfold Builtin.len_
  simp [run_underlying under_map, MapKept.run_getObj_map hb, Result.andThen, goInt, hl]
theorem make_map (w : World) : MapW (w.alloc (.map #[] 0)) w.heap.size [] := ⟨#[], 0, (MapKept.heap_alloc w _).1, rfl, fun e he => by simp at he, List.nodup_nil⟩

theorem step_drop {ops : Array Oper} {o : Oper} {a : Act} {W : World} {K : Act → World → Prop} {Q : Exit → Act → World → Prop} {E : Prop} (hgd : o.guard = none) (m x : Operand) (hop : o.op = Op.call { callee := Callee.builtin Builtin.delete, args := #[m, x], argTypes := #[138, 30] }) {B : Nat} {M : List Wx} (hm : a.eval m = .map (some B)) (h : MapW W B M) (d1 d2 : Int) (hx : a.eval x = .agg #[.int .i64 d1, .int .i64 d2])
    (hK : ∀ w', MapW w' B (ridW (d1, d2) M) → W.grownBy w' (some B) → K (a.put o.dst (.tuple #[])) w') : if Region.wanted o (yielded ops a.tmps) = true then Oper.wp Tryz.prog o a W K Q else E := by
  have hw : Region.wanted o (yielded ops a.tmps) = true := by simp [Region.wanted, hgd]
  rw [if_pos hw]
  obtain ⟨w', hrun, r1, r2⟩ := delete_run h d1 d2 o.type
  unfold Oper.wp execOp
  simp only [hop, resolve, invoke, builtin, Sem.run_bind, Sem.run_pure, Result.andThen_ok, List.map_toArray, List.map_cons, List.map_nil, hm, hx, hrun]
  exact hK w' r1 r2
theorem wpList_lenM (w : World) {ops : Array Oper} {rest : List Oper} {o : Oper} {a : Act} {Q : Exit → Act → World → Prop} (hg : o.guard = none) (m : Operand) (hop : o.op = Op.call { callee := Callee.builtin Builtin.len, args := #[m], argTypes := #[138] }) {B : Nat} {M : List Wx} (hm : a.eval m = .map (some B)) (h : MapW w B M) (n : Nat) (hn : M.length = n)
    (hK : wpList Tryz.prog ops Q rest (a.put o.dst (.int .i64 n)) w) : wpList Tryz.prog ops Q (o :: rest) a w := by
  refine wpList_plain hg fun K' hK' => ?_
  unfold Oper.wp
  have hl := len_run h o.type
  rw [hn] at hl
  simp [execOp, hop, resolve, invoke, builtin, hm, hl, Result.andThen]
  exact hK' _ _ hK

end Jb
end Go.Proofs.YtnniggjeadlbgaaGreatDoor
