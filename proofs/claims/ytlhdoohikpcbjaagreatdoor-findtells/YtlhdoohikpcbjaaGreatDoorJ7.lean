import Derived.Test.YtlhdoohikpcbjaaGreatDoorJ1
import Derived.Test.YtlhdoohikpcbjaaGreatDoorJ4
import Derived.Deep.RegionHeld3
import Derived.Deep.QuietTactic
import Derived.BigQuiet
import Derived.Laws.IdiomStrings
import Derived.OwnWalk
import Derived.Maps.AppendAt
import Derived.Laws.Tables
set_option linter.unusedVariables false
namespace Go.Proofs.YtlhdoohikpcbjaaGreatDoor
namespace Om
open Cm
abbrev Ox := Dt × Int × ByteArray × Int × List Dt
def oz : Ox := ((0, 0), 0, ByteArray.empty, 0, [])
def isLetter (n : Int) : Bool := decide (32 ≤ n) && decide (n ≤ 126)
def lawOf (o : Ox) : Int :=
 if o.2.1 = 1 ∧ isLetter o.2.2.2.1 = false then 1
 else if (o.2.1 ≠ 1 ∧ o.2.2.2.1 ≠ 0) ∨ (o.2.1 ≠ 4 ∧ o.2.2.2.2 ≠ []) then 3
 else if 40 < o.2.2.2.2.length then 4 else dotsE o.2.2.2.2
def opE (o : Ox) : Int :=
 if dotE o.1.1 o.1.2 ≠ 0 then dotE o.1.1 o.1.2
 else if o.2.1 < 1 ∨ 4 < o.2.1 then 1
 else if Pm.chk o.2.2.1.toList ≠ 0 then Pm.chk o.2.2.1.toList
 else lawOf o
theorem dotE_iff {a b : Int} : dotE a b = 0 ↔ 1 ≤ a ∧ a ≤ 8 ∧ 1 ≤ b ∧ b ≤ 9999 := by
 unfold dotE
 constructor
 ·intro h
  split at h
  ·exact absurd h (by decide)
  ·omega
 ·intro h; rw [if_neg (by omega)]
theorem isLetter_iff {n : Int} : isLetter n = true ↔ 32 ≤ n ∧ n ≤ 126 := by unfold isLetter; simp
theorem lawOf_zero {o : Ox} : lawOf o = 0 ↔ (o.2.1 = 1 → 32 ≤ o.2.2.2.1 ∧ o.2.2.2.1 ≤ 126) ∧ (o.2.1 ≠ 1 → o.2.2.2.1 = 0) ∧ (o.2.1 ≠ 4 → o.2.2.2.2 = []) ∧ o.2.2.2.2.length ≤ 40 ∧ dotsE o.2.2.2.2 = 0 := by
 obtain ⟨⟨a, b⟩, t, p, c, s⟩ := o
 unfold lawOf
 simp only
 by_cases h1 : t = 1 ∧ isLetter c = false
 ·rw [if_pos h1]
  constructor
  ·intro h; exact absurd h (by decide)
  ·rintro ⟨g, _⟩
   have := isLetter_iff.2 (g h1.1)
   rw [h1.2] at this; cases this
 ·rw [if_neg h1]
  have k1 : t = 1 → 32 ≤ c ∧ c ≤ 126 := by
   intro h
   cases h2 : isLetter c
   ·exact absurd ⟨h, h2⟩ h1
   ·exact isLetter_iff.1 h2
  by_cases h2 : (t ≠ 1 ∧ c ≠ 0) ∨ (t ≠ 4 ∧ s ≠ [])
  ·rw [if_pos h2]
   constructor
   ·intro h; exact absurd h (by decide)
   ·rintro ⟨_, g1, g2, _⟩
    rcases h2 with ⟨e1, e2⟩ | ⟨e1, e2⟩
    ·exact absurd (g1 e1) e2
    ·exact absurd (g2 e1) e2
  ·rw [if_neg h2]
   have k2 : t ≠ 1 → c = 0 := fun h => Decidable.byContradiction fun e => h2 (Or.inl ⟨h, e⟩)
   have k3 : t ≠ 4 → s = [] := fun h => Decidable.byContradiction fun e => h2 (Or.inr ⟨h, e⟩)
   by_cases h3 : 40 < s.length
   ·rw [if_pos h3]
    constructor
    ·intro h; exact absurd h (by decide)
    ·rintro ⟨_, _, _, g, _⟩; omega
   ·rw [if_neg h3]
    exact ⟨fun h => ⟨k1, k2, k3, by omega, h⟩, fun h => h.2.2.2.2⟩
theorem opE_zero {o : Ox} : opE o = 0 ↔ dotE o.1.1 o.1.2 = 0 ∧ (1 ≤ o.2.1 ∧ o.2.1 ≤ 4) ∧ Pm.chk o.2.2.1.toList = 0 ∧ lawOf o = 0 := by
 unfold opE
 by_cases h1 : dotE o.1.1 o.1.2 = 0
 ·rw [if_neg (by simpa using h1)]
  by_cases h2 : o.2.1 < 1 ∨ 4 < o.2.1
  ·rw [if_pos h2]
   constructor
   ·intro h; exact absurd h (by decide)
   ·rintro ⟨_, g, _⟩; omega
  ·rw [if_neg h2]
   by_cases h3 : Pm.chk o.2.2.1.toList = 0
   ·rw [if_neg (by simpa using h3)]
    exact ⟨fun h => ⟨h1, by omega, h3, h⟩, fun h => h.2.2.2⟩
   ·rw [if_pos h3]
    exact ⟨fun h => absurd h h3, fun h => absurd h.2.2.1 h3⟩
 ·rw [if_pos h1]
  exact ⟨fun h => absurd h h1, fun h => absurd h.1 h1⟩
def u8 (n : Int) : UInt8 := UInt8.ofNat n.toNat
def b2 (n : Int) : List UInt8 := [u8 (n / 256), u8 (n % 256)]
theorem toList_mk (l : List UInt8) : (⟨l.toArray⟩ : ByteArray).toList = l := by rw [ByteArray.toList_eq]
theorem mk_toList (s : ByteArray) : (⟨s.toList.toArray⟩ : ByteArray) = s := by rw [ByteArray.toList_eq]
theorem len_eq (s : ByteArray) : s.toList.length = s.size := by rw [ByteArray.toList_eq]; rfl
end Om
namespace Oa
open Go.ChangeShapes Go.WideShapes Go.ChangeAt Go.RowKit Cm Ka Kb Na Om
open La (bel bel_drew errV_zero errV_ne own_ge own_grow own_below)
def six (x : Ox) (v : Value) : List Value := [.int .i64 x.1.1, .int .i64 x.1.2, .int .i64 x.2.1, .string x.2.2.1, .int .i64 x.2.2.2.1, v]
def flatO (l : List (Ox × Value)) : List Value := l.flatMap fun y => six y.1 y.2
theorem flatO_append (a b : List (Ox × Value)) : flatO (a ++ b) = flatO a ++ flatO b := by unfold flatO; rw [List.flatMap_append]
theorem flatO_length : ∀ l : List (Ox × Value), (flatO l).length = l.length * 6
 | [] => rfl
 | x :: l => by
  have := flatO_length l
  unfold flatO at this ⊢
  rw [List.flatMap_cons, List.length_append, this]
  simp [six]; omega
theorem flatO_at : ∀ {l : List (Ox × Value)} {j : Nat} {y : Ox × Value}, l[j]? = some y → ∀ i u, (six y.1 y.2)[i]? = some u → (flatO l)[j * 6 + i]? = some u
 | [], j, y, h, i, u, hu => by simp at h
 | x :: l, 0, y, h, i, u, hu => by
  simp only [List.getElem?_cons_zero, Option.some.injEq] at h
  subst h
  have hi : i < (six x.1 x.2).length := (List.getElem?_eq_some_iff.1 hu).1
  unfold flatO
  rw [List.flatMap_cons, Nat.zero_mul, Nat.zero_add, List.getElem?_append_left hi]
  exact hu
 | x :: l, j + 1, y, h, i, u, hu => by
  have h2 : l[j]? = some y := by simpa using h
  have ih := flatO_at h2 i u hu
  have e : ∀ i, (flatO (x :: l))[i + 6]? = (flatO l)[i]? := fun i => by
   unfold flatO
   rw [List.flatMap_cons, List.getElem?_append_right (by simp [six])]
   simp [six]
  rw [show (j + 1) * 6 + i = j * 6 + i + 6 by omega, e]
  exact ih
def OAt (w : World) (b o j : Nat) (x : Ox) : Prop := ∃ v, (w.cell? ⟨b, o + j * 6, none⟩ = some (.int .i64 x.1.1) ∧ w.cell? ⟨b, o + j * 6 + 1, none⟩ = some (.int .i64 x.1.2) ∧ w.cell? ⟨b, o + j * 6 + 2, none⟩ = some (.int .i64 x.2.1) ∧ w.cell? ⟨b, o + j * 6 + 3, none⟩ = some (.string x.2.2.1) ∧ w.cell? ⟨b, o + j * 6 + 4, none⟩ = some (.int .i64 x.2.2.2.1) ∧ w.cell? ⟨b, o + j * 6 + 5, none⟩ = some v) ∧ DtsAt w v x.2.2.2.2
def OpsIn (w : World) (p : Option Addr) (l : List Ox) : Prop :=
 l = [] ∨ ∃ b o, p = some ⟨b, o, none⟩ ∧ ∀ j, j < l.length → OAt w b o j (l.getD j oz)
theorem OAt.lt {w : World} {b o j : Nat} {x : Ox} (h : OAt w b o j x) : b < w.heap.size := by
 obtain ⟨v, h, _⟩ := h
 exact World.block_lt_of_cell? _ ⟨b, o + j * 6, none⟩ h.1
theorem OAt.below {w w' : World} {b o j : Nat} {x : Ox} (h : OAt w b o j x) (hb : Below w.heap.size w w') : OAt w' b o j x := by
 have hB := h.lt
 obtain ⟨v, ⟨h0, h1, h2, h3, h4, h5⟩, hd⟩ := h
 exact ⟨v, ⟨(hb.cell (p := ⟨b, o + j * 6, none⟩) hB).trans h0, (hb.cell (p := ⟨b, o + j * 6 + 1, none⟩) hB).trans h1, (hb.cell (p := ⟨b, o + j * 6 + 2, none⟩) hB).trans h2, (hb.cell (p := ⟨b, o + j * 6 + 3, none⟩) hB).trans h3, (hb.cell (p := ⟨b, o + j * 6 + 4, none⟩) hB).trans h4, (hb.cell (p := ⟨b, o + j * 6 + 5, none⟩) hB).trans h5⟩, hd.below hb⟩
theorem OpsIn.below {w w' : World} {p : Option Addr} {l : List Ox} (h : OpsIn w p l) (hb : Below w.heap.size w w') : OpsIn w' p l := by
 rcases h with h | ⟨b, o, hp, hc⟩
 ·exact Or.inl h
 ·exact Or.inr ⟨b, o, hp, fun j hj => (hc j hj).below hb⟩
theorem OpsIn.some {w : World} {p : Option Addr} {l : List Ox} (h : OpsIn w p l) (hl : l ≠ []) : ∃ b o, p = some ⟨b, o, none⟩ ∧ ∀ j, j < l.length → OAt w b o j (l.getD j oz) := by
 rcases h with h | h
 ·exact absurd h hl
 ·exact h
def OpsAt (w : World) (v : Value) (l : List Ox) : Prop := ∃ p c, v = .slice p l.length c ∧ OpsIn w p l ∧ l.length ≤ c ∧ c ≤ maxLen ∧ (p = none → c = 0)
theorem OpsAt.below {w w' : World} {v : Value} {l : List Ox} (h : OpsAt w v l) (hb : Below w.heap.size w w') : OpsAt w' v l := by
 obtain ⟨p, c, h1, h2, h3⟩ := h
 exact ⟨p, c, h1, h2.below hb, h3⟩
theorem OpsAt.nil (w : World) : OpsAt w (.slice none 0 0) [] := ⟨none, 0, rfl, Or.inl rfl, Nat.le_refl _, by unfold maxLen; omega, fun _ => rfl⟩
theorem getO_mem {l : List Ox} {j : Nat} (hj : j < l.length) : l.getD j oz ∈ l := by
 rw [List.getD_eq_getElem?_getD, List.getElem?_eq_getElem hj]; exact List.getElem_mem hj
theorem own_ops {w : World} {base : Nat} {t : TypeId} {v : Value} {n : Nat} {l : List (Ox × Value)} (h : w.ownsRow base t 6 v n (flatO l)) (hd : ∀ y ∈ l, DtsAt w y.2 y.1.2.2.2.2) : OpsAt w v (l.map (·.1)) := by
 have hn : l.length = n := by have := h.1; rw [flatO_length] at this; omega
 have hm : (l.map (·.1)).length = n := by rw [List.length_map]; exact hn
 rcases h.2 with ⟨rfl, h0⟩ | ⟨g, cap, cur, rfl, _, h2, h3, h4, h5, h6⟩
 ·subst h0
  have : l = [] := List.eq_nil_of_length_eq_zero hn
  subst this
  exact OpsAt.nil w
 ·refine ⟨some ⟨g, 0, none⟩, cap, by rw [hm], Or.inr ⟨g, 0, rfl, fun j hj => ?_⟩, by rw [hm]; exact h3, h4, fun e => by cases e⟩
  have hj2 : j < l.length := by rwa [List.length_map] at hj
  have key : ∀ i u, (flatO l)[i]? = some u → w.cell? ⟨g, 0 + i, none⟩ = some u := by
   intro i u hu
   have hi : i < n * 6 := by rw [← hn, ← flatO_length]; exact (List.getElem?_eq_some_iff.1 hu).1
   rw [← h6, List.getElem?_take_of_lt hi] at hu
   rw [Nat.zero_add]
   simp only [World.cell?, h2]
   simpa using hu
  have e1 : (l.map (·.1)).getD j oz = l[j].1 := by
   rw [List.getD_eq_getElem?_getD, List.getElem?_map, List.getElem?_eq_getElem hj2]; rfl
  rw [e1]
  have hf := fun i u => flatO_at (l := l) (j := j) (y := l[j]) (List.getElem?_eq_getElem hj2) i u
  refine ⟨l[j].2, ⟨?_, ?_, ?_, ?_, ?_, ?_⟩, hd _ (List.getElem_mem hj2)⟩
  ·have := key _ _ (hf 0 _ rfl); rwa [show 0 + (j * 6 + 0) = 0 + j * 6 by omega] at this
  ·have := key _ _ (hf 1 _ rfl); rwa [show 0 + (j * 6 + 1) = 0 + j * 6 + 1 by omega] at this
  ·have := key _ _ (hf 2 _ rfl); rwa [show 0 + (j * 6 + 2) = 0 + j * 6 + 2 by omega] at this
  ·have := key _ _ (hf 3 _ rfl); rwa [show 0 + (j * 6 + 3) = 0 + j * 6 + 3 by omega] at this
  ·have := key _ _ (hf 4 _ rfl); rwa [show 0 + (j * 6 + 4) = 0 + j * 6 + 4 by omega] at this
  ·have := key _ _ (hf 5 _ rfl); rwa [show 0 + (j * 6 + 5) = 0 + j * 6 + 5 by omega] at this
end Oa
namespace Oz
open Go.ChangeShapes Go.WideShapes Go.ChangeAt Go.RowKit Cm Ka Kb Na Om Oa
open La (bel bel_drew errV_zero errV_ne own_ge own_grow own_below)
theorem keep_cell {W W' : World} {p : Addr} {v : Value} (hb : Below W.heap.size W W') (h : W.cell? p = some v) : W'.cell? p = some v := (hb.cell (World.block_lt_of_cell? _ _ h)).trans h
theorem wrap_in {x : Int} (h1 : -1000000 ≤ x) (h2 : x ≤ 1000000) : IntKind.i64.wrap x = x := by
 rw [IntKind.wrap_i64]; omega
theorem bel_new {w wr w2 : World} {o : Obj} (h : Below w.heap.size w wr) (hb : Below (wr.alloc o).heap.size (wr.alloc o) w2) : Below w.heap.size w w2 := bel (h.alloc h.size o) hb
theorem dotsE_fault : ∀ {s : List Dt} {k : Nat}, k < s.length → (∀ j, j < k → dotE (s.getD j noneD).1 (s.getD j noneD).2 = 0) → dotE (s.getD k noneD).1 (s.getD k noneD).2 ≠ 0 → dotsE s = dotE (s.getD k noneD).1 (s.getD k noneD).2 := by
 intro s k hk h1 h2
 have key : ∀ (s : List Dt) (k : Nat), k < s.length → (∀ j, j < k → dotE (s.getD j noneD).1 (s.getD j noneD).2 = 0) → dotE (s.getD k noneD).1 (s.getD k noneD).2 ≠ 0 → s.find? (fun d => decide (dotE d.1 d.2 ≠ 0)) = some (s.getD k noneD) := by
  intro s
  induction s with
  | nil => intro k hk; simp at hk
  | cons y s ih =>
   intro k hk h1 h2
   cases k with
   | zero =>
    have h3 : dotE y.1 y.2 ≠ 0 := h2
    rw [List.find?_cons_of_pos (by simpa using h3)]; rfl
   | succ k =>
    have h3 : dotE y.1 y.2 = 0 := h1 0 (by omega)
    rw [List.find?_cons_of_neg (by simpa using h3)]
    exact ih k (by simpa using hk) (fun j hj => h1 (j + 1) (by omega)) h2
 unfold dotsE
 rw [key s k hk h1 h2]
theorem all_zero {s : List Dt} (h : ∀ j, j < s.length → dotE (s.getD j noneD).1 (s.getD j noneD).2 = 0) : ∀ d ∈ s, dotE d.1 d.2 = 0 := by
 intro d hd
 obtain ⟨j, hj, e⟩ := List.mem_iff_getElem.1 hd
 have := h j hj
 rw [List.getD_eq_getElem?_getD, List.getElem?_eq_getElem hj] at this
 simp only [Option.getD_some] at this
 rw [e] at this; exact this
theorem dotsE_cases {s : List Dt} (h : ∀ d ∈ s, dotE d.1 d.2 = 0) : dotsE s = 0 ∨ dotsE s = 7 := by
 unfold dotsE
 cases hf : s.find? (fun d => decide (dotE d.1 d.2 ≠ 0)) with
 | some d =>
  have h1 := List.mem_of_find?_eq_some hf
  have h2 := List.find?_some hf
  simp only [decide_eq_true_eq] at h2
  exact absurd (h d h1) h2
 | none => simp only []; split <;> simp
theorem dotsE_seven {s : List Dt} {m : Nat} (h : ∀ d ∈ s, dotE d.1 d.2 = 0) (hm : m + 1 < s.length) (h2 : dlt (s.getD m noneD) (s.getD (m + 1) noneD) = false) : dotsE s = 7 := by
 rcases dotsE_cases h with e | e
 ·have hr := (dotsE_zero.1 e).2
  have h3 := (rise_steps dlt_strict).1 hr m hm (s.getD m noneD) (s.getD (m + 1) noneD) (by rw [List.getD_eq_getElem?_getD, List.getElem?_eq_getElem (by omega)]; rfl) (by rw [List.getD_eq_getElem?_getD, List.getElem?_eq_getElem hm]; rfl)
  rw [h2] at h3; cases h3
 ·exact e
theorem dotsE_ok {s : List Dt} (h : ∀ d ∈ s, dotE d.1 d.2 = 0) (h2 : ∀ m, m + 1 < s.length → dlt (s.getD m noneD) (s.getD (m + 1) noneD) = true) : dotsE s = 0 := by
 refine dotsE_zero.2 ⟨h, (rise_steps dlt_strict).2 fun i hi a b ha hb => ?_⟩
 have := h2 i hi
 rw [List.getD_eq_getElem?_getD, List.getD_eq_getElem?_getD, ha, hb] at this
 exact this
def Six (W : World) (h : Nat) (a b t : Int) (p : ByteArray) (c : Int) (v : Value) : Prop :=
 W.cell? ⟨h, 0, none⟩ = some (.int .i64 a) ∧ W.cell? ⟨h, 1, none⟩ = some (.int .i64 b) ∧ W.cell? ⟨h, 2, none⟩ = some (.int .i64 t) ∧ W.cell? ⟨h, 3, none⟩ = some (.string p) ∧ W.cell? ⟨h, 4, none⟩ = some (.int .i64 c) ∧ W.cell? ⟨h, 5, none⟩ = some v
theorem six_new (w : World) (a b t : Int) (p : ByteArray) (c : Int) (v : Value) (T : TypeId) : Six (w.alloc (.cells #[.int .i64 a, .int .i64 b, .int .i64 t, .string p, .int .i64 c, v] T)) w.heap.size a b t p c v := by
 have h2 := heap_alloc_new w (.cells #[.int .i64 a, .int .i64 b, .int .i64 t, .string p, .int .i64 c, v] T)
 refine ⟨?_, ?_, ?_, ?_, ?_, ?_⟩ <;> (simp only [World.cell?, h2]; rfl)
theorem Six.below {W W' : World} {h : Nat} {a b t : Int} {p : ByteArray} {c : Int} {v : Value} (s : Six W h a b t p c v) (hb : Below W.heap.size W W') : Six W' h a b t p c v := by
 obtain ⟨h0, h1, h2, h3, h4, h5⟩ := s
 exact ⟨keep_cell hb h0, keep_cell hb h1, keep_cell hb h2, keep_cell hb h3, keep_cell hb h4, keep_cell hb h5⟩
end Oz
namespace Oc
open Go.ChangeShapes Go.WideShapes Go.ChangeAt Go.RowKit Cm Ka Kb Na Om Oa Oz
open La (bel bel_drew errV_zero errV_ne own_ge own_grow own_below)
def bc (l : List UInt8) : List Value := l.map fun x => Value.int .u8 (x.toNat : Int)
theorem bc_at {l : List UInt8} {j : Nat} (hj : j < l.length) : (bc l)[j]? = some (.int .u8 ((l.getD j 0).toNat : Int)) := by
 rw [bc, List.getElem?_map, List.getElem?_eq_getElem hj, List.getD_eq_getElem?_getD, List.getElem?_eq_getElem hj]; rfl
theorem addr_zero (g j : Nat) : (⟨g, 0, none⟩ : Addr).add j = ⟨g, j, none⟩ := by
 unfold Addr.add
 by_cases h : j = 0 <;> simp [h]
def Row (w : World) (B : Nat) (v : Value) (l : List UInt8) : Prop := w.ownsRow B 5 1 v l.length (bc l)
theorem Row.alloc {w : World} {B : Nat} {v : Value} {l : List UInt8} (h : Row w B v l) (o : Obj) : Row (w.alloc o) B v l := World.ownsRow.alloc h o
theorem Row.slice {w : World} {B : Nat} {v : Value} {l : List UInt8} (h : Row w B v l) : ∃ p c, v = .slice p l.length c ∧ (l ≠ [] → ∃ g, p = some ⟨g, 0, none⟩ ∧ B ≤ g) ∧ ∀ g, p = some ⟨g, 0, none⟩ → ∀ j, j < l.length → w.cell? ⟨g, j, none⟩ = some (.int .u8 ((l.getD j 0).toNat : Int)) := by
 have hh := h
 obtain ⟨_, h2⟩ := h
 rcases h2 with ⟨e, e0⟩ | ⟨g, cap, cur, rfl, hg, _⟩
 ·refine ⟨none, 0, by rw [e, e0], fun hne => absurd (List.eq_nil_of_length_eq_zero e0) hne, fun g hg => by cases hg⟩
 ·refine ⟨some ⟨g, 0, none⟩, cap, rfl, fun _ => ⟨g, rfl, hg⟩, fun g2 e j hj => ?_⟩
  injection e with e
  injection e with e
  subst e
  have := World.ownsRow.cells hh (g := g) rfl j _ (bc_at hj)
  rwa [addr_zero] at this
theorem text_new (w : World) (s : ByteArray) (C : Nat) (f : Nat × Nat) (j : Nat) (hj : j < s.toList.length) :
  (w.alloc (.cells (bytesRow s C) 5 f)).cell? ⟨w.heap.size, j, none⟩ = some (.int .u8 ((s.toList.getD j 0).toNat : Int)) := by
 have hb : (w.alloc (.cells (bytesRow s C) 5 f)).heap[w.heap.size]? = some (.cells (bytesRow s C) 5 f) := heap_alloc_new w _
 have hl := Om.len_eq s
 have hj2 : j < s.data.size := by rw [hl] at hj; exact hj
 simp only [World.cell?, hb]
 rw [List.getD_eq_getElem?_getD, List.getElem?_eq_getElem hj]
 simp only [bytesRow, Array.getElem?_append, Array.size_map, ByteArray.toList_eq, Array.getElem_toList]
 rw [if_pos hj2, Array.getElem?_map, Array.getElem?_eq_getElem hj2]
 rfl
end Oc
namespace Og
open Go.ChangeShapes Go.WideShapes Go.ChangeAt Go.RowKit Cm Ka Kb Na Om Oa Oz Oc
open La (bel bel_drew errV_zero errV_ne own_ge own_grow own_below)
structure Only (g : Nat) (w w' : World) : Prop where
 os : w'.os = w.os
 tape : w'.tape = w.tape
 output : w'.output = w.output
 size : w'.heap.size = w.heap.size
 block : ∀ k, k ≠ g → w'.heap[k]? = w.heap[k]?
theorem Only.cell {g : Nat} {w w' : World} (h : Only g w w') {p : Addr} (hp : p.block ≠ g) : w'.cell? p = w.cell? p := World.cell?_of_block (w := w) (h.block p.block hp)
end Og
namespace Oi
open Go.ChangeShapes Go.WideShapes Go.ChangeAt Go.RowKit Cm Ka Kb Na Om Oa Oz Oc Og
open La (bel bel_drew errV_zero errV_ne own_ge own_grow own_below)
theorem mk_eq {a b : ByteArray} (h : a.toList = b.toList) : a = b := by rw [← mk_toList a, ← mk_toList b, h]
theorem set_block (w : World) (p : Addr) (v : Value) (k : Nat) (h : k ≠ p.block) : (w.setCell p v).heap[k]? = w.heap[k]? := Below.heap_setCell _ _ _ _ h
theorem own_shape {w : World} {base : Nat} {t : TypeId} {z : Nat} {v : Value} {n : Nat} {xs : List Value} (h : w.ownsRow base t z v n xs) : ∃ p N c, v = .slice p N c ∧ Hid (N = n) := by
 rcases h.2 with ⟨e, e0⟩ | ⟨g, cap, cur, h1, _⟩
 ·exact ⟨none, 0, 0, e, e0.symm⟩
 ·exact ⟨_, _, _, h1, rfl⟩
theorem infoD : (Tryz.prog.info? 45).map (fun i => (i.zero, i.size, i.bytes)) = some (some (.agg #[.int .i64 0, .int .i64 0]), 2, 16) := by kernel_rfl
end Oi
namespace Ov
open Go.ChangeShapes Go.WideShapes Go.ChangeAt Go.RowKit Cm Ka Kb Na Om Oa Oz Oc Og Oi
open La (bel bel_drew errV_zero errV_ne own_ge own_grow own_below)
def CheckSays : Prop := ∀ (a b t : Int) (p : ByteArray) (c : Int) (v : Value) (s : List Dt) (w : World), DtsAt w v s → p.size ≤ maxLen →
 Calls Tryz.prog 59 #[.agg #[.int .i64 a, .int .i64 b, .int .i64 t, .string p, .int .i64 c, v]] w fun e w' => e = .returned (errV (opE ((a, b), t, p, c, s))) ∧ Below w.heap.size w w'
end Ov
end Go.Proofs.YtlhdoohikpcbjaaGreatDoor
