/- A map from texts to texts, as the program reads, writes and deletes in it. -/
import Derived.Test.YtllcmfbkingfdaaGreatFc
import Derived.Test.YtllcmfbkingfdaaGreatFe
import Derived.MapKept
import Derived.Maps.OwnSet
namespace Go.Proofs.YtllcmfbkingfdaaGreat
namespace Fl
set_option linter.unusedVariables false
set_option linter.unusedSimpArgs false
open Go.ChangeShapes Go.WideShapes Go.ChangeAt Go.RowKit Go.MapKept Go.ChangeMaps Ka Kb Ef Fc
open Fb (Kp names get? off used)

abbrev pe (e : MapEntry) : Value × Value := (e.key, e.val)
abbrev pk (x : Kp) : Value × Value := (.string x.1, .string x.2)
def MapS (w : World) (B : Nat) (M : List Kp) : Prop := ∃ es clock, w.heap[B]? = some (.map es clock) ∧ es.toList.map pe = M.map pk ∧ (names M).Nodup
theorem MapS.stay {w w' : World} {B : Nat} {M : List Kp} (h : MapS w B M) (hs : w'.heap[B]? = w.heap[B]?) : MapS w' B M := by
  obtain ⟨es, clock, hb, h2⟩ := h
  exact ⟨es, clock, hs.trans hb, h2⟩
theorem MapS.lt {w : World} {B : Nat} {M : List Kp} (h : MapS w B M) : B < w.heap.size := by
  obtain ⟨es, clock, hb, _⟩ := h
  exact (Array.getElem?_eq_some_iff.1 hb).1
theorem MapS.nd {w : World} {B : Nat} {M : List Kp} (h : MapS w B M) : (names M).Nodup := by
  obtain ⟨es, clock, hb, _, h2⟩ := h
  exact h2
theorem MapS.noCells {w : World} {B : Nat} {M : List Kp} (h : MapS w B M) {cur : Array Value} {t : TypeId} {f : Nat × Nat} (h2 : w.heap[B]? = some (.cells cur t f)) : False := by
  obtain ⟨es, clock, hb, _⟩ := h
  rw [hb] at h2; cases h2
theorem make_map (w : World) : MapS (w.alloc (.map #[] 0)) w.heap.size [] := ⟨#[], 0, (MapKept.heap_alloc w _).1, rfl, List.nodup_nil⟩
theorem zero_s (w : World) : (zeroValue 9).run Tryz.prog w = .ok (.string ByteArray.empty) w := by kernel_rfl
theorem under_s : Tryz.prog.underlying 9 = some .string := by kernel_rfl
theorem under_m : Tryz.prog.underlying 70 = some (.map 9 9) := by kernel_rfl
theorem check_key (e : Bool) (p : ByteArray) (w : World) : (Instr.checkKey e 10000 9 (.string p)).run Tryz.prog w = .ok () w := run_checkKey under_s (d := .string) (k := .string p) trivial e 9999

def findI (p : ByteArray) : List Kp → Option (Nat × ByteArray)
  | [] => none
  | x :: M => if x.1 = p then some (0, x.2) else (findI p M).map fun r => (r.1 + 1, r.2)
theorem find_get (p : ByteArray) : ∀ M : List Kp, (findI p M).map (·.2) = get? p M
  | [] => rfl
  | x :: M => by
    unfold findI get?
    by_cases h : x.1 = p
    · rw [if_pos h, if_pos h]; rfl
    · rw [if_neg h, if_neg h, ← find_get p M, Option.map_map]; rfl
theorem find_now (p : ByteArray) : ∀ (M : List Kp) (es : List MapEntry) (i : Nat), es.map pe = M.map pk → Instr.findNow .string (.string p) es i = some ((findI p M).map fun r => (i + r.1, .string r.2))
  | [], es, i, h => by
    have : es = [] := by simpa using h
    subst this
    rfl
  | x :: M, [], i, h => by simp at h
  | x :: M, e :: es, i, h => by
    simp only [List.map_cons, List.cons.injEq, Prod.mk.injEq] at h
    obtain ⟨⟨h1, h2⟩, h3⟩ := h
    have ih := find_now p M es (i + 1) h3
    unfold Instr.findNow
    rw [h1, h2]
    unfold findI
    show (match some (p == x.1) with | some true => some (some (i, Value.string x.2)) | some false => Instr.findNow .string (.string p) es (i + 1) | none => none) = _
    by_cases hd : x.1 = p
    · have e1 : (p == x.1) = true := (bytes_beq p x.1).2 hd.symm
      rw [e1, if_pos hd]; rfl
    · have e1 : (p == x.1) = false := by
        cases hq : (p == x.1) with
        | false => rfl
        | true => exact absurd ((bytes_beq p x.1).1 hq).symm hd
      rw [e1, if_neg hd]
      show Instr.findNow .string (.string p) es (i + 1) = _
      rw [ih]
      cases findI p M with
      | none => rfl
      | some r => simp only [Option.map_some]; rw [show i + 1 + r.1 = i + (r.1 + 1) by omega]
theorem find_key (p : ByteArray) (w : World) (M : List Kp) (es : List MapEntry) (h : es.map pe = M.map pk) :
    (Instr.findKey 9 (.string p) es).run Tryz.prog w = .ok ((findI p M).map fun r => (r.1, .string r.2)) w := by
  have h1 := find_now p M es 0 h
  have h2 := run_findKey (P := Tryz.prog) (w := w) under_s h1
  rw [h2]
  cases findI p M with
  | none => rfl
  | some r => simp
theorem lookup_ok {w : World} {B : Nat} {M : List Kp} (h : MapS w B M) (p : ByteArray) :
    (Instr.lookup 70 (.map (some B)) (.string p) true).run Tryz.prog w = .ok (.tuple #[.string ((get? p M).getD ByteArray.empty), .bool (get? p M).isSome]) w := by
  obtain ⟨es, clock, hb, he, _⟩ := h
  have hf := find_key p w M es.toList he
  unfold Instr.lookup
  simp only [Sem.run_bind, run_underlying under_m, MapKept.run_getObj_map hb, Result.andThen, Sem.run_pure, check_key, hf]
  rw [← find_get]
  cases findI p M with
  | none => simp only [Option.map_none, Sem.run_bind, zero_s, Result.andThen, Sem.run_pure]; rfl
  | some r => rfl
theorem lookup_no {w : World} {B : Nat} {M : List Kp} (h : MapS w B M) (p : ByteArray) :
    (Instr.lookup 70 (.map (some B)) (.string p) false).run Tryz.prog w = .ok (.string ((get? p M).getD ByteArray.empty)) w := by
  obtain ⟨es, clock, hb, he, _⟩ := h
  have hf := find_key p w M es.toList he
  unfold Instr.lookup
  simp only [Sem.run_bind, run_underlying under_m, MapKept.run_getObj_map hb, Result.andThen, Sem.run_pure, check_key, hf]
  rw [← find_get]
  cases findI p M with
  | none => simp only [Option.map_none, Sem.run_bind, zero_s, Result.andThen, Sem.run_pure]; rfl
  | some r => rfl
theorem setBlock_grown {w : World} {B : Nat} {o : Obj} (hb : w.heap[B]? = some o) (o' : Obj) : w.grownBy { w with heap := w.heap.setIfInBounds B o' } (some B) := by
  refine ⟨rfl, rfl, rfl, ?_, fun g hg hne => ?_⟩
  · simp
  · exact (MapKept.heap_set hb).2 g (fun e => hne (by rw [e]))
theorem update_run {w : World} {B : Nat} {M : List Kp} (h : MapS w B M) (p s : ByteArray) (hn : get? p M = none) :
    ∃ w', (Instr.mapUpdate 70 (.map (some B)) (.string p) (.string s)).run Tryz.prog w = .ok () w' ∧ MapS w' B (M ++ [(p, s)]) ∧ w.grownBy w' (some B) := by
  obtain ⟨es, clock, hb, he, hnd⟩ := h
  have hf := find_key p w M es.toList he
  have hq : findI p M = none := by
    have h9 := find_get p M
    rw [hn] at h9
    cases hq : findI p M with
    | none => rfl
    | some r => rw [hq] at h9; cases h9
  rw [hq] at hf
  simp only [Option.map_none] at hf
  unfold Instr.mapUpdate
  simp only [Sem.run_bind, run_underlying under_m, MapKept.run_getObj_map hb, Result.andThen, Sem.run_pure, check_key, hf, MapKept.run_setObj_map _ hb]
  refine ⟨_, rfl, ⟨_, _, (MapKept.heap_set hb).1, ?_, Fb.nodup_snoc hnd (Fb.get_none.1 hn)⟩, setBlock_grown hb _⟩
  rw [Array.toList_push, List.map_append, he, List.map_append]; rfl
theorem erase_eq {p t : ByteArray} : ∀ {M : List Kp} {i : Nat}, (names M).Nodup → findI p M = some (i, t) → M.eraseIdx i = off p M
  | [], i, _, hf => by cases hf
  | x :: M, i, hn, hf => by
    have hn2 : x.1 ∉ names M ∧ (names M).Nodup := List.nodup_cons.1 hn
    unfold findI at hf
    by_cases hd : x.1 = p
    · rw [if_pos hd] at hf
      injection hf with hf
      injection hf with hf1 hf2
      subst hf1
      rw [Fb.off_cons_eq hd, Fb.off_none (by rw [← hd]; exact hn2.1)]; rfl
    · rw [if_neg hd] at hf
      cases hq : findI p M with
      | none => rw [hq] at hf; cases hf
      | some r =>
        rw [hq] at hf
        obtain ⟨j, u⟩ := r
        simp only [Option.map_some, Option.some.injEq, Prod.mk.injEq] at hf
        obtain ⟨rfl, rfl⟩ := hf
        rw [List.eraseIdx_cons_succ, Fb.off_cons_ne hd, erase_eq hn2.2 hq]
theorem map_erase {α β : Type} (f : α → β) : ∀ (l : List α) (i : Nat), (l.eraseIdx i).map f = (l.map f).eraseIdx i
  | [], _ => rfl
  | x :: l, 0 => rfl
  | x :: l, i + 1 => by
    rw [List.eraseIdx_cons_succ, List.map_cons, List.map_cons, List.eraseIdx_cons_succ, map_erase f l i]
theorem delete_run {w : World} {B : Nat} {M : List Kp} (h : MapS w B M) (p t : ByteArray) (hg : get? p M = some t) :
    ∃ w', (∀ ty, (Builtin.delete_ #[70, 9] ty #[.map (some B), .string p]).run Tryz.prog w = .ok (.tuple #[]) w') ∧ MapS w' B (off p M) ∧ w.grownBy w' (some B) := by
  obtain ⟨es, clock, hb, he, hnd⟩ := h
  have hf := find_key p w M es.toList he
  obtain ⟨i, u, hq⟩ : ∃ i u, findI p M = some (i, u) := by
    have h9 := find_get p M
    rw [hg] at h9
    cases hq : findI p M with
    | none => rw [hq] at h9; cases h9
    | some r => exact ⟨r.1, r.2, rfl⟩
  rw [hq] at hf
  simp only [Option.map_some] at hf
  have hn : ∀ (v : Value), (#[Value.map (some B), v])[0]? = some (.map (some B)) ∧ (#[Value.map (some B), v])[1]? = some v := fun v => ⟨rfl, rfl⟩
  refine ⟨{ w with heap := w.heap.setIfInBounds B (.map (es.eraseIdxIfInBounds i) clock) }, fun ty => ?_, ⟨_, _, (MapKept.heap_set hb).1, ?_, Fb.nodup_off hnd⟩, setBlock_grown hb _⟩
  · unfold Builtin.delete_
    simp only [(hn _).1, (hn _).2, show (#[(70 : TypeId), 9])[0]? = some 70 from rfl, Sem.run_bind, run_underlying under_m, MapKept.run_getObj_map hb, Result.andThen, Sem.run_pure, check_key, hf, MapKept.run_setObj_map _ hb]
  · have e1 : (es.eraseIdxIfInBounds i).toList = es.toList.eraseIdx i := Array.toList_eraseIdxIfInBounds
    rw [e1, ← erase_eq hnd hq, map_erase, map_erase, he]

/- what is there, in whichever order -/
def Rel (M m : List Kp) : Prop := ∀ q, get? q M = get? q m
theorem get_append (q : ByteArray) : ∀ (a c : List Kp), get? q (a ++ c) = (get? q a).or (get? q c)
  | [], c => by simp [get?]
  | x :: a, c => by
    have e : ∀ l : List Kp, get? q (x :: l) = if x.1 = q then some x.2 else get? q l := fun _ => rfl
    rw [List.cons_append, e, e]
    by_cases h : x.1 = q
    · rw [if_pos h, if_pos h]; rfl
    · rw [if_neg h, if_neg h]; exact get_append q a c
theorem get_off (p q : ByteArray) : ∀ m : List Kp, get? q (off p m) = if q = p then none else get? q m
  | [] => by simp [off, get?]
  | x :: m => by
    have ih := get_off p q m
    by_cases h : x.1 = p
    · rw [Fb.off_cons_eq h, ih]
      by_cases e : q = p
      · rw [if_pos e, if_pos e]
      · rw [if_neg e, if_neg e]
        conv => rhs; unfold get?
        rw [if_neg (fun e2 => e (e2.symm.trans h))]
    · rw [Fb.off_cons_ne h]
      unfold get?
      by_cases e : x.1 = q
      · rw [if_pos e, if_pos e, if_neg (fun e2 => h (e.trans e2))]
      · rw [if_neg e, if_neg e]; exact ih
theorem Rel.off {M m : List Kp} (h : Rel M m) (p : ByteArray) : Rel (off p M) (off p m) := fun q => by rw [get_off, get_off, h q]
theorem Rel.snoc {M m : List Kp} (h : Rel M m) (x : Kp) : Rel (M ++ [x]) (m ++ [x]) := fun q => by rw [get_append, get_append, h q]
theorem Rel.nil : Rel [] [] := fun q => rfl

end Fl
end Go.Proofs.YtllcmfbkingfdaaGreat
