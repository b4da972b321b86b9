/- A map from dots to slices, as the program reads, writes and deletes in it. -/
import Derived.Test.YtgefpcchcegcpaaGreatDoorIa
import Derived.Maps.OwnSet
namespace Go.Proofs.YtgefpcchcegcpaaGreatDoor
namespace Ib
set_option linter.unusedVariables false
set_option linter.unusedSimpArgs false
open Go.ChangeShapes Go.WideShapes Go.ChangeAt Go.RowKit Go.MapKept Go.ChangeMaps Cm Ka Kb Na Om Oa Oz Oc Og Oi Hm Ia
open La (bel bel_drew errV_zero errV_ne own_ge own_grow own_below Lies)

theorem equal_dot (n a m b : Int) (w : World) : (Op.equal 31 (.agg #[.int .i64 n, .int .i64 a]) (.agg #[.int .i64 m, .int .i64 b])).run Tryz.prog w = .ok (decide (((n, a) : Dt) = (m, b))) w := by
  have u3 := Tryz.underlying3
  have a3 := Tryz.isAgg3
  have z3 := Tryz.sizeOf3
  have hS : Tryz.prog.underlying 31 = some (.struct (Tryz.prog.fieldsOf 31)) := by kernel_rfl
  have hp : Tryz.prog.stoodInHeld 31 = false := by kernel_rfl
  unfold Op.equal Op.maxDepth
  rw [show (10000 : Nat) = 9999 + 1 from rfl, run_equalIn_agg w 9999 31 _ _ hS hp]
  simp only [Program.fieldsOf, Tryz.underlying31]
  rw [Nk.dot_same]
  go_simp
  by_cases h2 : n = m <;> by_cases h3 : a = b <;> simp [h2, h3]
theorem check_key (e : Bool) (a b : Int) (w : World) : (Instr.checkKey e 10000 31 (.agg #[.int .i64 a, .int .i64 b])).run Tryz.prog w = .ok () w := by kernel_rfl
theorem zero_row (w : World) : (zeroValue 119).run Tryz.prog w = .ok (.slice none 0 0) w := by kernel_rfl

def findP (d : Dt) : List Ent → Option (Nat × Value)
  | [] => none
  | x :: M => if d = x.1 then some (0, x.2.1) else (findP d M).map fun r => (r.1 + 1, r.2)
def putM (d : Dt) (v : Value) (l : List ByteArray) : List Ent → List Ent
  | [] => [(d, v, l)]
  | x :: M => if d = x.1 then (d, v, l) :: M else x :: putM d v l M
def delM (d : Dt) : List Ent → List Ent
  | [] => []
  | x :: M => if d = x.1 then M else x :: delM d M

theorem getV_cons (x : Ent) (M : List Ent) (d : Dt) : getV (x :: M) d = if d = x.1 then x.2.1 else getV M d := by
  unfold getV
  by_cases h : d = x.1
  · rw [if_pos h, List.find?_cons_of_pos (by simp [h])]
  · rw [if_neg h, List.find?_cons_of_neg (by simp; exact fun e => h e.symm)]
theorem getJ_cons (x : Ent) (M : List Ent) (d : Dt) : getJ (x :: M) d = if d = x.1 then x.2.2 else getJ M d := by
  unfold getJ
  by_cases h : d = x.1
  · rw [if_pos h, List.find?_cons_of_pos (by simp [h])]
  · rw [if_neg h, List.find?_cons_of_neg (by simp; exact fun e => h e.symm)]
theorem getV_find (d : Dt) : ∀ M : List Ent, getV M d = ((findP d M).map (·.2)).getD (.slice none 0 0)
  | [] => rfl
  | x :: M => by
    rw [getV_cons]
    unfold findP
    by_cases h : d = x.1
    · rw [if_pos h, if_pos h]; rfl
    · rw [if_neg h, if_neg h, getV_find d M, Option.map_map]; rfl
theorem getJ_put (d e : Dt) (v : Value) (l : List ByteArray) : ∀ M : List Ent, getJ (putM d v l M) e = if e = d then l else getJ M e
  | [] => by show getJ [(d, v, l)] e = _; rw [getJ_cons]
  | x :: M => by
    unfold putM
    by_cases h : d = x.1
    · rw [if_pos h, getJ_cons, getJ_cons]
      by_cases h2 : e = d
      · rw [if_pos h2, if_pos h2]
      · rw [if_neg h2, if_neg h2, if_neg (fun e9 => h2 (e9.trans h.symm))]
    · rw [if_neg h, getJ_cons, getJ_cons, getJ_put d e v l M]
      by_cases h2 : e = x.1
      · rw [if_pos h2, if_neg (fun e9 => h (e9.symm.trans h2)), if_pos h2]
      · rw [if_neg h2, if_neg h2]
theorem getJ_del (d e : Dt) (hne : e ≠ d) : ∀ M : List Ent, getJ (delM d M) e = getJ M e
  | [] => rfl
  | x :: M => by
    unfold delM
    by_cases h : d = x.1
    · rw [if_pos h, getJ_cons, if_neg (fun e9 => hne (e9.trans h.symm))]
    · rw [if_neg h, getJ_cons, getJ_cons, getJ_del d e hne M]
theorem del_sub (d : Dt) : ∀ M : List Ent, (delM d M).Sublist M
  | [] => List.Sublist.refl _
  | x :: M => by
    unfold delM
    by_cases h : d = x.1
    · rw [if_pos h]; exact List.sublist_cons_self x M
    · rw [if_neg h]; exact (del_sub d M).cons_cons x
theorem put_mem {d : Dt} {v : Value} {l : List ByteArray} {x : Ent} : ∀ {M : List Ent}, x ∈ putM d v l M → x = (d, v, l) ∨ x ∈ M
  | [], h => by left; simpa [putM] using h
  | y :: M, h => by
    unfold putM at h
    by_cases e : d = y.1
    · rw [if_pos e] at h
      rcases List.mem_cons.1 h with h | h
      · exact Or.inl h
      · exact Or.inr (List.mem_cons_of_mem _ h)
    · rw [if_neg e] at h
      rcases List.mem_cons.1 h with h | h
      · exact Or.inr (by rw [h]; exact List.mem_cons_self)
      · rcases put_mem h with h | h
        · exact Or.inl h
        · exact Or.inr (List.mem_cons_of_mem _ h)
/- what stands at a dot, or nil -/
theorem get_mem (d : Dt) : ∀ M : List Ent, (getV M d = .slice none 0 0 ∧ getJ M d = []) ∨ ∃ x ∈ M, x.2.1 = getV M d ∧ x.2.2 = getJ M d
  | [] => Or.inl ⟨rfl, rfl⟩
  | x :: M => by
    rw [getV_cons, getJ_cons]
    by_cases h : d = x.1
    · rw [if_pos h, if_pos h]; exact Or.inr ⟨x, List.mem_cons_self, rfl, rfl⟩
    · rw [if_neg h, if_neg h]
      rcases get_mem d M with e | ⟨y, hy, e⟩
      · exact Or.inl e
      · exact Or.inr ⟨y, List.mem_cons_of_mem _ hy, e⟩
/- rows that lie apart stay apart when one is set that lies in its own row, or in a new block -/
def Sep (x y : Ent) : Prop := ∀ g, x.2.1.ownBlock = some g → y.2.1.ownBlock ≠ some g
theorem put_apart {d : Dt} {v : Value} {l : List ByteArray} : ∀ {M : List Ent}, M.Pairwise Sep → (∀ g, v.ownBlock = some g → (getV M d).ownBlock = some g ∨ ∀ x ∈ M, x.2.1.ownBlock ≠ some g) → (putM d v l M).Pairwise Sep
  | [], h, hv => by unfold putM; exact List.pairwise_singleton _ _
  | x :: M, h, hv => by
    obtain ⟨h1, h2⟩ := List.pairwise_cons.1 h
    unfold putM
    by_cases e : d = x.1
    · rw [if_pos e]
      refine List.pairwise_cons.2 ⟨fun y hy g hg => ?_, h2⟩
      rcases hv g hg with h9 | h9
      · rw [getV_cons, if_pos e] at h9; exact h1 y hy g h9
      · exact h9 y (List.mem_cons_of_mem _ hy)
    · rw [if_neg e]
      have hv2 : ∀ g, v.ownBlock = some g → (getV M d).ownBlock = some g ∨ ∀ x ∈ M, x.2.1.ownBlock ≠ some g := fun g hg => by
        rcases hv g hg with h9 | h9
        · rw [getV_cons, if_neg e] at h9; exact Or.inl h9
        · exact Or.inr fun y hy => h9 y (List.mem_cons_of_mem _ hy)
      refine List.pairwise_cons.2 ⟨fun y hy g hg => ?_, put_apart h2 hv2⟩
      rcases put_mem hy with rfl | hy
      · intro hg2
        rcases hv g hg2 with h9 | h9
        · rw [getV_cons, if_neg e] at h9
          rcases get_mem d M with ⟨e0, _⟩ | ⟨z, hz, e0, _⟩
          · rw [e0] at h9; cases h9
          · rw [← e0] at h9; exact h1 z hz g hg h9
        · exact h9 x List.mem_cons_self hg
      · exact h1 y hy g hg

theorem find_asking (d : Dt) (w : World) : ∀ (M : List Ent) (es : List MapEntry) (i : Nat), es.map pr = M.map pm →
    (Instr.findAsking 31 (aggD d) es i).run Tryz.prog w = .ok ((findP d M).map fun r => (i + r.1, r.2)) w
  | [], es, i, h => by
    have : es = [] := by simpa using h
    subst this
    rfl
  | x :: M, [], i, h => by simp at h
  | x :: M, e :: es, i, h => by
    simp only [List.map_cons, List.cons.injEq, Prod.mk.injEq] at h
    obtain ⟨⟨h1, h2⟩, h3⟩ := h
    unfold Instr.findAsking
    obtain ⟨⟨x1, x2⟩, xv, xl⟩ := x
    obtain ⟨d1, d2⟩ := d
    have q := equal_dot d1 d2 x1 x2 w
    simp only [aggD] at h1
    rw [h1]
    simp only [aggD, Sem.run_bind, q, Result.andThen]
    unfold findP
    by_cases hd : ((d1, d2) : Dt) = (x1, x2)
    · rw [decide_eq_true hd, if_pos rfl, if_pos hd, h2]; rfl
    · rw [decide_eq_false hd, if_neg hd]
      have ih := find_asking (d1, d2) w M es (i + 1) h3
      simp only [aggD] at ih
      rw [if_neg (by decide), ih]
      cases findP (d1, d2) M with
      | none => rfl
      | some r => simp only [Option.map_some]; rw [show i + 1 + r.1 = i + (r.1 + 1) by omega]
theorem find_key (d : Dt) (w : World) (M : List Ent) (es : List MapEntry) (h : es.map pr = M.map pm) :
    (Instr.findKey 31 (aggD d) es).run Tryz.prog w = .ok (findP d M) w := by
  have hS : Tryz.prog.underlying 31 = some (.struct (Tryz.prog.fieldsOf 31)) := by kernel_rfl
  have ha := find_asking d w M es 0 h
  have hz : ((findP d M).map fun r => (0 + r.1, r.2)) = findP d M := by
    cases findP d M with
    | none => rfl
    | some r => simp
  rw [hz] at ha
  unfold Instr.findKey
  rw [Sem.run_bind, run_underlying hS]
  simp only [Result.andThen]
  cases es with
  | nil =>
    have : M = [] := by simpa using h.symm
    subst this
    rfl
  | cons e es =>
    have : Instr.findNow (.struct (Tryz.prog.fieldsOf 31)) (aggD d) (e :: es) 0 = none := by
      unfold Instr.findNow
      simp [Instr.sameNow]
    rw [this]
    exact ha
theorem set_eq {M : List Ent} {d : Dt} {i : Nat} {u v : Value} {l : List ByteArray} : ∀ {es : List MapEntry}, es.map pr = M.map pm → findP d M = some (i, u) → ∀ f : MapEntry → MapEntry, (∀ e, e.key = aggD d → pr (f e) = (aggD d, v)) → (es.modify i f).map pr = (putM d v l M).map pm ∧ (es[i]?).map (·.key) = some (aggD d) := by
  induction M generalizing i with
  | nil => intro es h hf; cases hf
  | cons x M ih =>
    intro es h hf f hfe
    cases es with
    | nil => simp at h
    | cons e es =>
      simp only [List.map_cons, List.cons.injEq, Prod.mk.injEq] at h
      obtain ⟨⟨h1, h2⟩, h3⟩ := h
      unfold findP at hf
      unfold putM
      by_cases hd : d = x.1
      · rw [if_pos hd] at hf ⊢
        injection hf with hf
        injection hf with hf1 hf2
        subst hf1
        refine ⟨?_, by simp [h1, hd]⟩
        have hfx := hfe e (by rw [h1, hd])
        simp only [List.modify_zero_cons, List.map_cons, List.cons.injEq]
        exact ⟨hfx, h3⟩
      · rw [if_neg hd] at hf ⊢
        cases hq : findP d M with
        | none => rw [hq] at hf; cases hf
        | some r =>
          rw [hq] at hf
          obtain ⟨j, u2⟩ := r
          simp only [Option.map_some, Option.some.injEq, Prod.mk.injEq] at hf
          obtain ⟨rfl, rfl⟩ := hf
          have := ih h3 hq f hfe
          refine ⟨?_, ?_⟩
          · rw [List.modify_succ_cons]
            simp only [List.map_cons, List.cons.injEq, Prod.mk.injEq]
            exact ⟨⟨h1, h2⟩, this.1⟩
          · simpa using this.2
theorem push_eq {M : List Ent} {d : Dt} {v : Value} {l : List ByteArray} (hf : findP d M = none) : putM d v l M = M ++ [(d, v, l)] := by
  induction M with
  | nil => rfl
  | cons x M ih =>
    unfold findP at hf
    unfold putM
    by_cases hd : d = x.1
    · rw [if_pos hd] at hf; cases hf
    · rw [if_neg hd] at hf ⊢
      rw [ih (by simpa using hf)]; rfl
theorem erase_eq {M : List Ent} {d : Dt} {i : Nat} {u : Value} : ∀ {es : List MapEntry}, es.map pr = M.map pm → findP d M = some (i, u) → (es.eraseIdx i).map pr = (delM d M).map pm := by
  induction M generalizing i with
  | nil => intro es h hf; cases hf
  | cons x M ih =>
    intro es h hf
    cases es with
    | nil => simp at h
    | cons e es =>
      simp only [List.map_cons, List.cons.injEq] at h
      unfold findP at hf
      unfold delM
      by_cases hd : d = x.1
      · rw [if_pos hd] at hf ⊢
        injection hf with hf
        injection hf with hf1 hf2
        subst hf1
        exact h.2
      · rw [if_neg hd] at hf ⊢
        cases hq : findP d M with
        | none => rw [hq] at hf; cases hf
        | some r =>
          rw [hq] at hf
          obtain ⟨j, u2⟩ := r
          simp only [Option.map_some, Option.some.injEq, Prod.mk.injEq] at hf
          obtain ⟨rfl, rfl⟩ := hf
          rw [List.eraseIdx_cons_succ]
          simp only [List.map_cons, List.cons.injEq]
          exact ⟨h.1, ih h.2 hq⟩
theorem erase_none {M : List Ent} {d : Dt} (hf : findP d M = none) : delM d M = M := by
  induction M with
  | nil => rfl
  | cons x M ih =>
    unfold findP at hf
    unfold delM
    by_cases hd : d = x.1
    · rw [if_pos hd] at hf; cases hf
    · rw [if_neg hd] at hf ⊢
      rw [ih (by simpa using hf)]

theorem under_map : Tryz.prog.underlying 72 = some (.map 31 119) := by kernel_rfl
theorem lookup_run {w : World} {B : Nat} {M : List Ent} (h : MapAt w B M) (a b : Int) :
    (Instr.lookup 72 (.map (some B)) (.agg #[.int .i64 a, .int .i64 b]) false).run Tryz.prog w = .ok (getV M (a, b)) w := by
  obtain ⟨es, clock, hb, he, _⟩ := h
  have hf := find_key (a, b) w M es.toList he
  simp only [aggD] at hf
  unfold Instr.lookup
  simp only [Sem.run_bind, run_underlying under_map, MapKept.run_getObj_map hb, Result.andThen, Sem.run_pure, check_key, hf]
  rw [getV_find]
  cases findP (a, b) M with
  | none => simp only [Sem.run_bind, zero_row, Result.andThen, Sem.run_pure]; rfl
  | some r => rfl
theorem setBlock_grown {w : World} {B : Nat} {es : Array MapEntry} {clock : Nat} (hb : w.heap[B]? = some (.map es clock)) (o : Obj) : w.grownBy (setBlock w B o) (some B) :=
  ⟨rfl, rfl, rfl, by simp [setBlock], fun i _ hi => heap_setBlock_other hb _ (fun e => hi (by rw [e]))⟩
theorem same_bits (a b : Int) : Instr.sameBits 10000 (.agg #[.int .i64 a, .int .i64 b]) (.agg #[.int .i64 a, .int .i64 b]) = true := by
  rw [show (10000 : Nat) = 9999 + 1 from rfl]
  simp [Instr.sameBits]
theorem born_modify {es : List MapEntry} {clock i : Nat} {f : MapEntry → MapEntry} (hf : ∀ e, (f e).born = e.born) (h : Born es clock) : Born (es.modify i f) clock := by
  have hm : (es.modify i f).map (·.born) = es.map (·.born) := by
    apply List.ext_getElem?
    intro j
    rw [List.getElem?_map, List.getElem?_map, List.getElem?_modify]
    split
    · cases es[j]? with
      | none => rfl
      | some e => simp [hf]
    · simp
  refine ⟨fun e he => ?_, by rw [hm]; exact h.2⟩
  have : e.born ∈ (es.modify i f).map (·.born) := List.mem_map.2 ⟨e, he, rfl⟩
  rw [hm] at this
  obtain ⟨x, hx, hxe⟩ := List.mem_map.1 this
  rw [← hxe]; exact h.1 x hx
theorem born_push {es : List MapEntry} {clock : Nat} {k v : Value} (h : Born es clock) : Born (es ++ [⟨k, v, clock⟩]) (clock + 1) := by
  refine ⟨fun e he => ?_, ?_⟩
  · rcases List.mem_append.1 he with he | he
    · exact Nat.lt_succ_of_lt (h.1 e he)
    · rw [List.mem_singleton.1 he]; exact Nat.lt_succ_self _
  · rw [List.map_append, List.nodup_append]
    refine ⟨h.2, by simp, ?_⟩
    intro a ha b hb
    obtain ⟨x, hx, rfl⟩ := List.mem_map.1 ha
    simp at hb
    subst hb
    exact Nat.ne_of_lt (h.1 x hx)
theorem idx_born : ∀ (es : List MapEntry) (i st : Nat), (es.map (·.born)).Nodup → (es[i]?).map (·.born) = some st → es.findIdx? (fun x => (x.born : Int) == (st : Int)) = some i
  | [], i, st, _, h => by simp at h
  | e :: es, 0, st, hn, h => by
    have : e.born = st := by simpa using h
    rw [List.findIdx?_cons, this]; simp
  | e :: es, i + 1, st, hn, h => by
    have h2 : (es[i]?).map (·.born) = some st := by simpa using h
    have hn2 := List.nodup_cons.1 (show (e.born :: es.map (·.born)).Nodup from hn)
    have hne : e.born ≠ st := by
      intro e9
      apply hn2.1
      rw [e9]
      cases hq : es[i]? with
      | none => rw [hq] at h2; cases h2
      | some x =>
        rw [hq] at h2
        injection h2 with h2
        rw [← h2]
        exact List.mem_map.2 ⟨x, List.mem_of_getElem? hq, rfl⟩
    rw [List.findIdx?_cons, idx_born es i st hn2.2 h2]
    have : ((e.born : Int) == (st : Int)) = false := by rw [beq_eq_false_iff_ne]; omega
    rw [this]; rfl
/- an entry of it, by its stamp -/
def EntAt (w : World) (B : Nat) (M : List Ent) (d : Dt) (st : Nat) : Prop := ∃ es clock i u, w.heap[B]? = some (.map es clock) ∧ es.toList.map pr = M.map pm ∧ Born es.toList clock ∧ findP d M = some (i, u) ∧ (es.toList[i]?).map (·.born) = some st
theorem EntAt.stay {w w' : World} {B : Nat} {M : List Ent} {d : Dt} {st : Nat} (h : EntAt w B M d st) (hs : w'.heap[B]? = w.heap[B]?) : EntAt w' B M d st := by
  obtain ⟨es, clock, i, u, hb, h2⟩ := h
  exact ⟨es, clock, i, u, hs.trans hb, h2⟩
theorem find_put (d : Dt) (v : Value) (l : List ByteArray) : ∀ M : List Ent, findP d (putM d v l M) = some (((findP d M).map (·.1)).getD M.length, v)
  | [] => by simp [putM, findP]
  | x :: M => by
    unfold putM
    by_cases hd : d = x.1
    · rw [if_pos hd]
      conv => rhs; unfold findP
      rw [if_pos hd]
      unfold findP
      rw [if_pos rfl]; rfl
    · rw [if_neg hd]
      unfold findP
      rw [if_neg hd, if_neg hd, find_put d v l M]
      cases findP d M with
      | none => rfl
      | some r => rfl
theorem putM_cons (d : Dt) (v : Value) (l : List ByteArray) (x : Ent) (M : List Ent) : putM d v l (x :: M) = if d = x.1 then (d, v, l) :: M else x :: putM d v l M := rfl
theorem put_put (d : Dt) (v u : Value) (l k : List ByteArray) : ∀ M : List Ent, putM d v l (putM d u k M) = putM d v l M
  | [] => by simp [putM]
  | x :: M => by
    rw [putM_cons d u, putM_cons d v]
    by_cases hd : d = x.1
    · rw [if_pos hd, if_pos hd, putM_cons, if_pos rfl]
    · rw [if_neg hd, if_neg hd, putM_cons, if_neg hd, put_put d v u l k M]
theorem find_at {d : Dt} : ∀ {M : List Ent} {i : Nat} {u : Value}, findP d M = some (i, u) → (M.map pm)[i]? = some (aggD d, u)
  | [], i, u, h => by cases h
  | x :: M, i, u, h => by
    unfold findP at h
    by_cases hd : d = x.1
    · rw [if_pos hd] at h
      injection h with h
      injection h with h1 h2
      subst h1 h2
      simp [hd]
    · rw [if_neg hd] at h
      cases hq2 : findP d M with
      | none => rw [hq2] at h; cases h
      | some r =>
        rw [hq2] at h
        obtain ⟨j, u2⟩ := r
        simp only [Option.map_some, Option.some.injEq, Prod.mk.injEq] at h
        obtain ⟨rfl, rfl⟩ := h
        simpa using find_at hq2
theorem entry_run {w : World} {B : Nat} {M : List Ent} (h : MapAt w B M) (a b : Int) :
    ∃ st w', (Instr.mapEntry 72 (.map (some B)) (.agg #[.int .i64 a, .int .i64 b])).run Tryz.prog w = .ok (.tuple #[getV M (a, b), .int .i64 ((st : Nat) : Int)]) w' ∧ EntAt w' B (putM (a, b) (getV M (a, b)) (getJ M (a, b)) M) (a, b) st ∧ w.grownBy w' (some B) := by
  obtain ⟨es, clock, hb, he, hbn⟩ := h
  have hf := find_key (a, b) w M es.toList he
  have hlen : es.toList.length = M.length := by have := congrArg List.length he; simpa using this
  simp only [aggD] at hf
  unfold Instr.mapEntry
  simp only [Sem.run_bind, run_underlying under_map, MapKept.run_getObj_map hb, Result.andThen, Sem.run_pure, check_key, hf]
  have hgv := getV_find (a, b) M
  cases hq : findP (a, b) M with
  | none =>
    rw [hq] at hgv
    simp only [Option.map_none, Option.getD_none] at hgv
    simp only [Sem.run_bind, zero_row, Result.andThen, MapKept.run_setObj_map _ hb, goInt, Sem.run_pure]
    refine ⟨clock, setBlock w B (.map (es.push ⟨.agg #[.int .i64 a, .int .i64 b], .slice none 0 0, clock⟩) (clock + 1)), by rw [hgv]; rfl, ⟨_, _, M.length, getV M (a, b), heap_setBlock_same hb _, ?_, ?_, ?_, ?_⟩, setBlock_grown hb _⟩
    · rw [push_eq hq, hgv]
      simp [he, aggD]
    · rw [Array.toList_push]; exact born_push hbn
    · rw [find_put, hq]; rfl
    · rw [Array.toList_push, ← hlen, List.getElem?_append_right (Nat.le_refl _)]; simp
  | some r =>
    obtain ⟨i, u⟩ := r
    rw [hq] at hgv
    simp only [Option.map_some, Option.getD_some] at hgv
    have key := set_eq (v := getV M (a, b)) (l := getJ M (a, b)) he hq (fun e => { e with key := aggD (a, b), val := getV M (a, b) }) (fun e _ => rfl)
    have hk : (((es[i]?).map (·.key)).getD (Value.agg #[.int .i64 a, .int .i64 b])) = Value.agg #[.int .i64 a, .int .i64 b] := by
      have := key.2
      rw [Array.getElem?_toList] at this
      rw [this]; rfl
    have hex : ∃ e0, es.toList[i]? = some e0 := by
      cases hx : es.toList[i]? with
      | none => rw [hx] at key; cases key.2
      | some e0 => exact ⟨e0, rfl⟩
    obtain ⟨e0, he0⟩ := hex
    have hval : e0.val = u := by
      have h9 : (es.toList.map pr)[i]? = some (pr e0) := by rw [List.getElem?_map, he0]; rfl
      rw [he, find_at hq] at h9
      exact (congrArg Prod.snd (Option.some.inj h9)).symm
    have hm2 : (es.modify i fun e => { e with key := Value.agg #[.int .i64 a, .int .i64 b] }).toList.map pr = (putM (a, b) (getV M (a, b)) (getJ M (a, b)) M).map pm := by
      rw [← key.1, Array.toList_modify]
      apply List.ext_getElem?
      intro j
      rw [List.getElem?_map, List.getElem?_map, List.getElem?_modify, List.getElem?_modify]
      by_cases hj : i = j
      · subst hj
        rw [he0]
        simp only [if_true, pr, aggD, hgv]
        show some (_, e0.val) = some (_, u)
        rw [hval]
      · simp only [if_neg hj]
    simp only [hk, Instr.keyThatStays, same_bits, if_true, Sem.run_bind, Sem.run_pure, Result.andThen, MapKept.run_setObj_map _ hb, goInt]
    have hst : ((es[i]?).map (fun x => (x.born : Int))).getD 0 = (e0.born : Int) := by
      rw [← Array.getElem?_toList, he0]; rfl
    refine ⟨e0.born, setBlock w B (.map (es.modify i fun e => { e with key := Value.agg #[.int .i64 a, .int .i64 b] }) clock), by rw [hgv, hst]; rfl, ⟨_, _, i, getV M (a, b), heap_setBlock_same hb _, hm2, ?_, ?_, ?_⟩, setBlock_grown hb _⟩
    · rw [Array.toList_modify]; exact born_modify (fun e => rfl) hbn
    · rw [find_put, hq]; rfl
    · rw [Array.toList_modify, List.getElem?_modify, he0]; simp
theorem store_run {w : World} {B : Nat} {M : List Ent} {a b : Int} {st : Nat} (h : EntAt w B M (a, b) st) (v : Value) (l : List ByteArray) :
    ∃ w', (Instr.entryStore 72 (.map (some B)) (.int .i64 (st : Int)) v).run Tryz.prog w = .ok () w' ∧ MapAt w' B (putM (a, b) v l M) ∧ w.grownBy w' (some B) := by
  obtain ⟨es, clock, i, u, hb, he, hbn, hq, hst⟩ := h
  have hi := idx_born es.toList i st hbn.2 hst
  have hi2 : es.findIdx? (fun x => (x.born : Int) == (st : Int)) = some i := by rw [← hi]; simp [← List.findIdx?_toArray]
  have key := set_eq (v := v) (l := l) he hq (fun e => { e with val := v }) (fun e hk => by simp [hk])
  unfold Instr.entryStore
  simp only [Sem.run_bind, MapKept.run_getObj_map hb, Result.andThen, show (asInt (Value.int .i64 (st : Int))).run Tryz.prog w = .ok (st : Int) w from rfl, hi2, MapKept.run_setObj_map _ hb]
  refine ⟨_, rfl, ⟨_, _, heap_setBlock_same hb _, ?_, ?_⟩, setBlock_grown hb _⟩
  · rw [Array.toList_modify]; exact key.1
  · rw [Array.toList_modify]; exact born_modify (fun e => rfl) hbn
theorem born_sub {es fs : List MapEntry} {clock : Nat} (hs : fs.Sublist es) (h : Born es clock) : Born fs clock := ⟨fun e he => h.1 e (hs.subset he), h.2.sublist (hs.map _)⟩
theorem delete_run {w : World} {B : Nat} {M : List Ent} (h : MapAt w B M) (a b : Int) (ty : TypeId) :
    ∃ w', (Builtin.delete_ #[72, 31] ty #[.map (some B), .agg #[.int .i64 a, .int .i64 b]]).run Tryz.prog w = .ok (.tuple #[]) w' ∧ MapAt w' B (delM (a, b) M) ∧ w.grownBy w' (some B) := by
  obtain ⟨es, clock, hb, he, hbn⟩ := h
  have hf := find_key (a, b) w M es.toList he
  simp only [aggD] at hf
  have hn : ∀ (v : Value), (#[Value.map (some B), v])[0]? = some (.map (some B)) ∧ (#[Value.map (some B), v])[1]? = some v := fun v => ⟨rfl, rfl⟩
  unfold Builtin.delete_
  simp only [(hn _).1, (hn _).2, show (#[(72 : TypeId), 31])[0]? = some 72 from rfl, Sem.run_bind, run_underlying under_map, MapKept.run_getObj_map hb, Result.andThen, Sem.run_pure, check_key, hf]
  cases hq : findP (a, b) M with
  | none =>
    simp only [MapKept.run_setObj_map _ hb, Result.andThen, Sem.run_bind, Sem.run_pure]
    refine ⟨_, rfl, ⟨_, _, heap_setBlock_same hb _, ?_, hbn⟩, setBlock_grown hb _⟩
    rw [erase_none hq]; exact he
  | some r =>
    obtain ⟨i, u⟩ := r
    simp only [MapKept.run_setObj_map _ hb, Result.andThen, Sem.run_bind, Sem.run_pure]
    refine ⟨_, rfl, ⟨_, _, heap_setBlock_same hb _, ?_, ?_⟩, setBlock_grown hb _⟩
    · rw [Array.toList_eraseIdxIfInBounds]; exact erase_eq he hq
    · rw [Array.toList_eraseIdxIfInBounds]; exact born_sub (List.eraseIdx_sublist _ _) hbn
theorem make_map (w : World) : MapAt (w.alloc (.map #[] 0)) w.heap.size [] := ⟨#[], 0, (MapKept.heap_alloc w _).1, rfl, fun e he => by simp at he, List.nodup_nil⟩

/- at the operation, for the walk -/
end Ib
end Go.Proofs.YtgefpcchcegcpaaGreatDoor
