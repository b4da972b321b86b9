
import Derived.Test.YtnbnniapllkjlaaGreatDoorJ13
import Derived.Test.YtnbnniapllkjlaaGreatDoorJ6
import Derived.Test.YtnbnniapllkjlaaGreatDoorBf
import Derived.Test.YtnbnniapllkjlaaGreatDoorBi
namespace Go.Proofs.YtnbnniapllkjlaaGreatDoor
namespace Bh
set_option linter.unusedVariables false
set_option linter.unusedSimpArgs false
open Go.ChangeShapes Go.WideShapes Go.ChangeAt Go.RowKit Cm Ka Kb Na Om Oa Oz Oc Og Oi Hm Ia Ic Ie Im
open La (bel bel_drew own_below)
open Nl (run_clear below_setCells)
abbrev Oy := Ox × Value
def oy : Oy := (oz, .slice none 0 0)
def off (who : Int) (x : Ox) : Bool := x.1.1 != who
def stays (who : Int) (l : List Oy) : List Oy := l.filter fun y => !off who y.1
theorem stays_map (who : Int) (l : List Oy) : (stays who l).map (·.1) = (l.map (·.1)).filter fun o => decide (o.1.1 = who) := by
 unfold stays off
 induction l with
 | nil => rfl
 | cons y l ih =>
  rw [List.filter_cons, List.map_cons, List.filter_cons]
  by_cases h : y.1.1.1 = who
  ·rw [if_pos (by simp [h]), if_pos (by simp [h]), List.map_cons, ih]
  ·rw [if_neg (by simp [h]), if_neg (by simp [h]), ih]
theorem stays_all {who : Int} {l : List Oy} (h : ∀ j, j < l.length → off who (l.getD j oy).1 = false) : stays who l = l := by
 unfold stays
 rw [List.filter_eq_self]
 intro x hx
 obtain ⟨j, hj, e⟩ := List.mem_iff_getElem.1 hx
 have := h j hj
 rw [List.getD_eq_getElem?_getD, List.getElem?_eq_getElem hj] at this
 simp only [Option.getD_some] at this
 rw [e] at this; simp [this]
theorem take_next {l : List Oy} {k : Nat} (hk : k < l.length) : l.take (k + 1) = l.take k ++ [l.getD k oy] := by
 rw [List.getD_eq_getElem?_getD, List.getElem?_eq_getElem hk, List.take_add_one, List.getElem?_eq_getElem hk]; rfl
theorem stays_next {who : Int} {l : List Oy} {k : Nat} (hk : k < l.length) : stays who (l.take (k + 1)) = if off who (l.getD k oy).1 then stays who (l.take k) else stays who (l.take k) ++ [l.getD k oy] := by
 unfold stays
 rw [take_next hk, List.filter_append]
 cases h : off who (l.getD k oy).1
 ·simp only [List.filter_cons, h, List.filter_nil]; simp
 ·simp only [List.filter_cons, h, List.filter_nil]; simp
theorem six_set (l : List Value) (m : Nat) (x0 x1 x2 x3 x4 x5 : Value) (h : m + 6 ≤ l.length) :
  ((((((l.set m x0).set (m + 1) x1).set (m + 2) x2).set (m + 3) x3).set (m + 4) x4).set (m + 5) x5) = l.take m ++ [x0, x1, x2, x3, x4, x5] ++ l.drop (m + 6) := by
 rw [← set6 l m x0 x1 x2 x3 x4 x5 h]
 conv => lhs; rw [← List.take_append_drop (m + 6) ((((((l.set m x0).set (m + 1) x1).set (m + 2) x2).set (m + 3) x3).set (m + 4) x4).set (m + 5) x5)]
 congr 1
 rw [List.drop_set_of_lt (by omega), List.drop_set_of_lt (by omega), List.drop_set_of_lt (by omega), List.drop_set_of_lt (by omega), List.drop_set_of_lt (by omega), List.drop_set_of_lt (by omega)]
theorem flat_take (l : List Oy) {i : Nat} (hi : i ≤ l.length) : flatO (l.take i) = (flatO l).take (i * 6) ∧ flatO (l.drop i) = (flatO l).drop (i * 6) := by
 have h := flatO_append (l.take i) (l.drop i)
 rw [List.take_append_drop] at h
 have hl : (flatO (l.take i)).length = i * 6 := by rw [flatO_length, List.length_take]; omega
 rw [h, List.take_left' hl, List.drop_left' hl]; exact ⟨rfl, rfl⟩
theorem setAt {w : World} {g n i : Nat} {R : List Oy} {x : Ox} {v : Value} (h : RowO w g n R) (hR : R.length = n) (hi : i < n) : RowO (w6s w g (i * 6) x v) g n (R.set i (x, v)) := by
 obtain ⟨cur, h1, h2, h3⟩ := h
 refine ⟨_, set_heap (set_heap (set_heap (set_heap (set_heap (set_heap h1))))), by simp [h2], ?_⟩
 have hc : cur.toList.length = n * 6 := by simpa using h2
 have h3' : cur.toList = flatO R := by rw [← h3, List.take_of_length_le (by rw [hc, hR]; exact Nat.le_refl _)]
 rw [List.length_set, hR, List.take_of_length_le (by simp [h2])]
 simp only [Array.toList_setIfInBounds]
 rw [six_set _ _ _ _ _ _ _ _ (by omega), h3', List.set_eq_take_append_cons_drop, if_pos (by omega), flatO_append, (flat_take R (by omega)).1, show (x, v) :: R.drop (i + 1) = [(x, v)] ++ R.drop (i + 1) from rfl, flatO_append, (flat_take R (by omega)).2, ← List.append_assoc, show (i + 1) * 6 = i * 6 + 6 by omega]
 rfl
def Row (w : World) (g n i j : Nat) (K l : List Oy) : Prop := ∃ R : List Oy, R.length = n ∧ RowO w g n R ∧ R.take i = K ∧ R.drop j = l.drop j
theorem Row.below {w w' : World} {g n i j : Nat} {K l : List Oy} (h : Row w g n i j K l) (hb : Below w.heap.size w w') : Row w' g n i j K l := by
 obtain ⟨R, h1, h2, h3, h4⟩ := h
 exact ⟨R, h1, h2.below hb, h3, h4⟩
theorem Row.at {w : World} {g n i j : Nat} {K l : List Oy} (h : Row w g n i j K l) (hl : l.length = n) (hj : j < n) : ∀ k u, (six (l.getD j oy).1 (l.getD j oy).2)[k]? = some u → w.cell? ⟨g, j * 6 + k, none⟩ = some u := by
 obtain ⟨R, h1, h2, _, h4⟩ := h
 have e1 : (R.drop j)[0]? = (l.drop j)[0]? := by rw [h4]
 rw [List.getElem?_drop, List.getElem?_drop, Nat.add_zero, List.getElem?_eq_getElem (show j < l.length by omega)] at e1
 rw [List.getD_eq_getElem?_getD, List.getElem?_eq_getElem (show j < l.length by omega)]
 exact h2.at e1
theorem Row.skip {w : World} {g n i j : Nat} {K l : List Oy} (h : Row w g n i j K l) : Row w g n i (j + 1) K l := by
 obtain ⟨R, h1, h2, h3, h4⟩ := h
 refine ⟨R, h1, h2, h3, ?_⟩
 have := congrArg (List.drop 1) h4
 rwa [List.drop_drop, List.drop_drop] at this
theorem Row.put {w : World} {g n i j : Nat} {K l : List Oy} {x : Ox} {v : Value} (h : Row w g n i j K l) (hij : i < j) (hi : i < n) : Row (w6s w g (i * 6) x v) g n (i + 1) (j + 1) (K ++ [(x, v)]) l := by
 obtain ⟨R, h1, h2, h3, h4⟩ := h
 refine ⟨R.set i (x, v), by rw [List.length_set]; exact h1, setAt h2 h1 hi, ?_, ?_⟩
 ·rw [← h3, take_next (by rw [List.length_set]; omega), List.take_set_of_le (Nat.le_refl _)]
  congr 1
  rw [List.getD_eq_getElem?_getD, List.getElem?_set_self (by omega)]; rfl
 ·rw [List.drop_set_of_lt (by omega)]
  have := congrArg (List.drop 1) h4
  rwa [List.drop_drop, List.drop_drop] at this
theorem Row.cell {w : World} {g n i j : Nat} {K l : List Oy} (h : Row w g n i j K l) : (∀ k, k < n * 6 → (w.cell? ⟨g, k, none⟩).isSome = true) ∧ ∀ k, w.frozen? ⟨g, k, none⟩ = false := by
 obtain ⟨R, h1, ⟨cur, c1, c2, _⟩, _⟩ := h
 refine ⟨fun k hk => ?_, fun k => blk_free c1⟩
 have hk2 : k < cur.size := by omega
 simp only [World.cell?, c1, Array.getElem?_eq_getElem hk2]; rfl
def OpsC (B : Nat) (w : World) (v : Value) (l : List Ox) : Prop := ∃ g c L, v = .slice (some ⟨g, 0, none⟩) l.length c ∧ B ≤ g ∧ L.map (·.1) = l ∧ RowO w g c L ∧ l.length ≤ c ∧ c ≤ 1048576 ∧ ∀ y ∈ L, w.ownsRow B 30 2 y.2 y.1.2.2.2.2.length (flatD y.1.2.2.2.2)
theorem OpsC.mono {B C : Nat} {w : World} {v : Value} {l : List Ox} (h : OpsC B w v l) (hB : C ≤ B) : OpsC C w v l := by
 obtain ⟨g, c, L, h1, h2, h3, h4, h5, h6, h7⟩ := h
 exact ⟨g, c, L, h1, Nat.le_trans hB h2, h3, h4, h5, h6, fun y hy => own_lower (h7 y hy) hB⟩
theorem off_any (a b t : Int) (p : ByteArray) (c : Int) (vs : Value) (A : Nat) (who : Int) (w : World) (hA : w.cell? ⟨A, 0, none⟩ = some (.int .i64 who)) (hv : ∃ q n k, vs = .slice q n k) :
  Calls Tryz.prog 60 #[.agg #[.int .i64 a, .int .i64 b, .int .i64 t, .string p, .int .i64 c, vs], .pointer (some ⟨A, 0, none⟩)] w fun e w' => e = .returned (.bool (off who ((a, b), t, p, c, []))) ∧ Below w.heap.size w w' := by
 obtain ⟨q, n, k, rfl⟩ := hv
 have hb1 : Below w.heap.size w (w.alloc (.cells #[.int .i64 a, .int .i64 b, .int .i64 t, .string p, .int .i64 c, .slice q n k] 33)) := (Below.refl _ w).alloc (Nat.le_refl _) _
 have HB : Hid (Below w.heap.size w (w.alloc (.cells #[.int .i64 a, .int .i64 b, .int .i64 t, .string p, .int .i64 c, .slice q n k] 33))) := hb1
 have hA2 := Oz.keep_cell hb1 hA
 obtain ⟨f0, _⟩ := six_new w a b t p c (.slice q n k) 33
 have HG : Hid (off who ((a, b), t, p, c, []) = (a != who)) := rfl
 rw [HG.out]
 clear hb1 hA HG
 go_enter Tryz.func60, Tryz.ntmps60
 go_wp2_with fail
 go_ret
 exact ⟨rfl, HB.out⟩
def FirstAt (who : Int) (l : List Oy) (z : Int) : Prop := (z = -1 ∧ ∀ j, j < l.length → off who (l.getD j oy).1 = false) ∨ ∃ k : Nat, k < l.length ∧ z = k ∧ off who (l.getD k oy).1 = true ∧ ∀ j, j < k → off who (l.getD j oy).1 = false
set_option maxHeartbeats 1000000 in
theorem indexFunc_any (g n : Nat) (l : List Oy) (A : Nat) (who : Int) (w : World) (hl : l.length = n) (h : RowO w g n l) (hsl : ∀ y ∈ l, ∃ q m k, y.2 = .slice q m k) (hn : n ≤ 1048576) (hA : w.cell? ⟨A, 0, none⟩ = some (.int .i64 who)) :
  Calls Tryz.prog 93 #[.slice (some ⟨g, 0, none⟩) n n, .func (.func 60) #[] #[.pointer (some ⟨A, 0, none⟩)]] w fun e w' => (∃ z, e = .returned (.int .i64 z) ∧ FirstAt who l z) ∧ Below w.heap.size w w' := by
 have HL : Hid (l.length = n) := hl
 have HI : Hid (RowO w g n l) := h
 have HSL : Hid (∀ y ∈ l, ∃ q m k, y.2 = .slice q m k) := hsl
 have HC : Hid (∀ wr, Below w.heap.size w wr → ∀ a b t p c vs, (∃ q n k, vs = .slice q n k) → Calls Tryz.prog 60 #[.agg #[.int .i64 a, .int .i64 b, .int .i64 t, .string p, .int .i64 c, vs], .pointer (some ⟨A, 0, none⟩)] wr fun e w' => e = .returned (.bool (off who ((a, b), t, p, c, []))) ∧ Below wr.heap.size wr w') :=
  fun wr hb a b t p c vs hv => off_any a b t p c vs A who wr (Oz.keep_cell hb hA) hv
 clear hl h hA hsl
 go_enter Tryz.func93, Tryz.ntmps93
 go_wp2
 go_loopw [5, 8] (fun _ vi wr => ∃ (k : Nat), k ≤ n ∧ vi = .int .i64 k ∧ Hid (∀ j, j < k → off who (l.getD j oy).1 = false) ∧ Hid (Below w.heap.size w wr)) (fun _ vi _ => n - (intOf vi).toNat)
 case atStart => exact ⟨0, by omega, rfl, fun j hj => absurd hj (by omega), Below.refl _ _⟩
 case round =>
  obtain ⟨k, hk, rfl, H1, HB⟩ := hrel
  by_cases hlt : k < n
  ·have hltz : (k : Int) < n := by omega
   have hkl : k < l.length := by rw [HL.out]; exact hlt
   have hy := List.getElem?_eq_getElem hkl
   have hat := (HI.out.below HB.out).at hy
   obtain ⟨q, m, cc, hvs⟩ := HSL.out _ (List.getElem_mem hkl)
   have HX : Hid (l.getD k oy = l[k]) := by rw [Hid, List.getD_eq_getElem?_getD, hy]; rfl
   obtain ⟨y, hye⟩ : ∃ y, l[k] = y := ⟨_, rfl⟩
   rw [hye] at hat hvs HX
   obtain ⟨⟨⟨a, b⟩, t, p, c, ss⟩, vs⟩ := y
   dsimp only at hat hvs
   subst hvs
   have a0 := hat 0 _ rfl
   have a1 := hat 1 _ rfl
   have a2 := hat 2 _ rfl
   have a3 := hat 3 _ rfl
   have a4 := hat 4 _ rfl
   have a5 := hat 5 _ rfl
   rw [Nat.add_zero] at a0
   dsimp only at a0 a1 a2 a3 a4
   clear hat hy hye
   have C := HC.out wr HB.out a b t p c (.slice q m cc) ⟨_, _, _, rfl⟩
   cases hg : off who ((a, b), t, p, c, [])
   ·rw [hg] at C
    have H3 : Hid (∀ j, j < k + 1 → off who (l.getD j oy).1 = false) := by
     intro j hj
     rcases Nat.lt_succ_iff_lt_or_eq.1 hj with h | rfl
     ·exact H1.out j h
     ·rw [HX.out]; exact hg
    clear hg
    go_wp2_with fail
    refine C.mono ?_
    rintro e w2 ⟨rfl, hb2⟩
    have HB2 : Hid (Below w.heap.size w w2) := bel HB.out hb2
    clear hb2 C
    go_wp2_with fail
    go_roundw
    case rel => exact ⟨k + 1, by omega, by go_num, H3, HB2⟩
    case measure => simp [intOf]; omega
   ·rw [hg] at C
    have H3 : Hid (FirstAt who l (k : Int)) := Or.inr ⟨k, hkl, rfl, by rw [HX.out]; exact hg, H1.out⟩
    clear hg
    go_wp2_with fail
    refine C.mono ?_
    rintro e w2 ⟨rfl, hb2⟩
    have HB2 : Hid (Below w.heap.size w w2) := bel HB.out hb2
    clear hb2 C
    go_wp2_with fail
    go_ret
    exact ⟨⟨_, rfl, H3.out⟩, HB2.out⟩
  ·obtain rfl : k = n := by omega
   have H3 : Hid (FirstAt who l (-1)) := Or.inl ⟨rfl, fun j hj => H1.out j (by rw [← HL.out]; exact hj)⟩
   go_wp2_with fail
   go_ret
   exact ⟨⟨_, rfl, H3.out⟩, HB.out⟩
def zO : Value := .agg #[.int .i64 0, .int .i64 0, .int .i64 0, .string ⟨#[]⟩, .int .i64 0, .slice none 0 0]
theorem zero_op (w : World) : (zeroValue 33).run Tryz.prog w = .ok zO w := by kernel_rfl
theorem clear_ops (w : World) (g i n c : Nat) (ty : TypeId) (hi : i < n) (hc : ∀ k, k < n * 6 → (w.cell? ⟨g, k, none⟩).isSome = true) (hf : ∀ o, w.frozen? ⟨g, o, none⟩ = false) :
  (Builtin.clear_ #[22] ty #[.slice (some ⟨g, i * 6, none⟩) (n - i) (c - i)]).run Tryz.prog w = .ok (.tuple #[]) (w.setCells g (i * 6) (Builtin.zeroCells zO.cells (n - i)).toList) :=
 run_clear w 22 33 ty zO Tryz.underlying22 zero_op (by decide) (by intro u hu; simp [zO, Value.cells] at hu; rcases hu with rfl | rfl | rfl | rfl <;> rfl) g (i * 6) (n - i) (c - i) (by omega)
  (fun j hj => hc _ (by have : zO.cells.size = 6 := rfl; rw [this] at hj; omega)) hf
theorem w6_own {w : World} {B g m : Nat} {x : Ox} {v : Value} {l : List Oy} {cur : Array Value} (hg : w.heap[g]? = some (.cells cur 33 (0, 0))) (h : ∀ y ∈ l, w.ownsRow B 30 2 y.2 y.1.2.2.2.2.length (flatD y.1.2.2.2.2)) : ∀ y ∈ l, (w6s w g m x v).ownsRow B 30 2 y.2 y.1.2.2.2.2.length (flatD y.1.2.2.2.2) := by
 intro y hy
 refine own_stay (h y hy) fun q hq => w6s_block _ _ _ _ _ _ (fun e => ?_)
 obtain ⟨_, cur2, hc⟩ := own_lt (h y hy) q hq
 rw [e, hg] at hc
 injection hc with hc
 injection hc with _ hc _
 exact absurd hc (by decide)
theorem row_block {w : World} {g n i j : Nat} {K l : List Oy} (h : Row w g n i j K l) : ∃ cur, w.heap[g]? = some (.cells cur 33 (0, 0)) := by
 obtain ⟨R, _, ⟨cur, c1, _⟩, _⟩ := h
 exact ⟨cur, c1⟩
set_option maxRecDepth 100000 in
set_option maxHeartbeats 4000000 in
theorem deleteFunc_any (W0 w : World) (g n : Nat) (l : List Oy) (A : Nat) (who : Int) (hl : l.length = n) (hr : RowO w g n l) (how : ∀ y ∈ l, w.ownsRow W0.heap.size 30 2 y.2 y.1.2.2.2.2.length (flatD y.1.2.2.2.2)) (hg : W0.heap.size ≤ g) (hb0 : Below W0.heap.size W0 w) (hn : n ≤ 1048576) (hA : W0.cell? ⟨A, 0, none⟩ = some (.int .i64 who)) :
  Calls Tryz.prog 59 #[.slice (some ⟨g, 0, none⟩) n n, .func (.func 60) #[] #[.pointer (some ⟨A, 0, none⟩)]] w fun e w' => ∃ v', e = .returned v' ∧ OpsC W0.heap.size w' v' ((stays who l).map (·.1)) ∧ Below W0.heap.size W0 w' := by
 have hsl : ∀ y ∈ l, ∃ q m k, y.2 = .slice q m k := fun y hy => by
  obtain ⟨q, c, e, _⟩ := own_dts (how y hy)
  exact ⟨_, _, _, e⟩
 have C := indexFunc_any g n l A who w hl hr hsl hn (Oz.keep_cell hb0 hA)
 have HC : Hid (∀ wr, Below W0.heap.size W0 wr → ∀ a b t p c vs, (∃ q n k, vs = .slice q n k) → Calls Tryz.prog 60 #[.agg #[.int .i64 a, .int .i64 b, .int .i64 t, .string p, .int .i64 c, vs], .pointer (some ⟨A, 0, none⟩)] wr fun e w' => e = .returned (.bool (off who ((a, b), t, p, c, []))) ∧ Below wr.heap.size wr w') :=
  fun wr hb a b t p c vs hv => off_any a b t p c vs A who wr (Oz.keep_cell hb hA) hv
 have HL : Hid (l.length = n) := hl
 have HSL : Hid (∀ y ∈ l, ∃ q m k, y.2 = .slice q m k) := hsl
 have HR : Hid (Row w g n 0 0 [] l) := ⟨l, hl, hr, rfl, rfl⟩
 have HOW : Hid (∀ y ∈ l, w.ownsRow W0.heap.size 30 2 y.2 y.1.2.2.2.2.length (flatD y.1.2.2.2.2)) := how
 have HB0 : Hid (Below W0.heap.size W0 w) := hb0
 have HG : Hid (W0.heap.size ≤ g) := hg
 have HSB : Hid (∀ y, y ∈ stays who l → y ∈ l) := fun y hy => (List.mem_filter.1 hy).1
 clear hl hr how hg hb0 hA hsl
 go_enter Tryz.func59, Tryz.ntmps59
 go_wp2_with fail
 refine C.mono ?_
 rintro e w1 ⟨⟨z, rfl, hz⟩, hb1⟩
 have HB1 : Hid (Below W0.heap.size W0 w1) := HB0.out.trans (hb1.mono HB0.out.size)
 have HR1 : Hid (Row w1 g n 0 0 [] l) := HR.out.below hb1
 have HO1 : Hid (∀ y ∈ l, w1.ownsRow W0.heap.size 30 2 y.2 y.1.2.2.2.2.length (flatD y.1.2.2.2.2)) := fun y hy => own_below (HOW.out y hy) hb1
 clear hb1 C HR HB0 HOW
 rcases hz with ⟨rfl, hz⟩ | ⟨k, hk, rfl, hk1, hk2⟩
 ·have HS : Hid (stays who l = l) := stays_all hz
  clear hz
  go_wp2_with fail
  go_ret
  refine ⟨_, rfl, ?_, HB1.out⟩
  rw [HS.out]
  obtain ⟨R, h1, h2, _, h4⟩ := HR1.out
  have e : R = l := by simpa using h4
  subst e
  exact ⟨g, n, R, by rw [List.length_map, h1]; rfl, HG.out, rfl, h2, by rw [List.length_map, h1]; exact Nat.le_refl _, hn, HO1.out⟩
 ·have hkn : k < n := by rw [← HL.out]; exact hk
  have hkb : ((k : Int) == -1) = false := by rw [beq_eq_false_iff_ne]; omega
  have HR2 : Hid (Row w1 g n k (k + 1) (stays who (l.take (k + 1))) l) := by
   have e1 : stays who (l.take (k + 1)) = l.take k := by
    rw [stays_next hk, hk1, if_pos rfl]
    refine stays_all fun j hj => ?_
    rw [List.length_take] at hj
    have := hk2 j (by omega)
    rwa [List.getD_eq_getElem?_getD, List.getElem?_take_of_lt (by omega), ← List.getD_eq_getElem?_getD]
   rw [e1]
   obtain ⟨R, h1, h2, _, h4⟩ := HR1.out
   have e : R = l := by simpa using h4
   subst e
   exact ⟨R, h1, h2, rfl, rfl⟩
  clear hk hk1 hk2 HR1
  go_wp2_with fail
  go_loopw [5, 6, 7] (fun vi vj _ wr => ∃ (i j : Nat), i < j ∧ j ≤ n ∧ vi = .int .i64 i ∧ vj = .int .i64 j ∧ Hid ((stays who (l.take j)).length = i ∧ Row wr g n i j (stays who (l.take j)) l) ∧ Hid (∀ y ∈ l, wr.ownsRow W0.heap.size 30 2 y.2 y.1.2.2.2.2.length (flatD y.1.2.2.2.2)) ∧ Hid (Below W0.heap.size W0 wr)) (fun _ vj _ _ => n - (intOf vj).toNat)
  case atStart => exact ⟨k, k + 1, by omega, by omega, rfl, by go_num, ⟨by obtain ⟨R, h1, _, h3, _⟩ := HR2.out; rw [← h3, List.length_take]; omega, HR2.out⟩, HO1, HB1⟩
  case round =>
   clear HR2 HO1 HB1
   obtain ⟨i, j, hij, hjn, rfl, rfl, HRR, HO, HB⟩ := hrel
   by_cases hlt : j < n
   ·have hltz : (j : Int) < n := by omega
    have hkl : j < l.length := by rw [HL.out]; exact hlt
    have hat := HRR.out.2.at HL.out hlt
    have HX : Hid (l.getD j oy = l[j]) := by rw [Hid, List.getD_eq_getElem?_getD, List.getElem?_eq_getElem hkl]; rfl
    obtain ⟨q, m, cc, hvs⟩ := HSL.out _ (List.getElem_mem hkl)
    have HSN : Hid (stays who (l.take (j + 1)) = if off who l[j].1 then stays who (l.take j) else stays who (l.take j) ++ [l[j]]) := by
     rw [Hid, stays_next hkl, HX.out]
    rw [HX.out] at hat
    obtain ⟨y, hye⟩ : ∃ y, l[j] = y := ⟨_, rfl⟩
    rw [hye] at hat hvs HSN
    obtain ⟨⟨⟨a, b⟩, t, p, c, ss⟩, vs⟩ := y
    dsimp only at hat hvs
    subst hvs
    have a0 := hat 0 _ rfl
    have a1 := hat 1 _ rfl
    have a2 := hat 2 _ rfl
    have a3 := hat 3 _ rfl
    have a4 := hat 4 _ rfl
    have a5 := hat 5 _ rfl
    rw [Nat.add_zero] at a0
    dsimp only at a0 a1 a2 a3 a4
    clear hat hye HX
    have HNW : Hid (Below wr.heap.size wr (wr.alloc (.cells #[.int .i64 a, .int .i64 b, .int .i64 t, .string p, .int .i64 c, .slice q m cc] 33))) := (Below.refl _ _).alloc (Nat.le_refl _) _
    have HBA : Hid (Below W0.heap.size W0 (wr.alloc (.cells #[.int .i64 a, .int .i64 b, .int .i64 t, .string p, .int .i64 c, .slice q m cc] 33))) := HB.out.trans (HNW.out.mono HB.out.size)
    have HSX : Hid (Six (wr.alloc (.cells #[.int .i64 a, .int .i64 b, .int .i64 t, .string p, .int .i64 c, .slice q m cc] 33)) wr.heap.size a b t p c (.slice q m cc)) := six_new wr a b t p c (.slice q m cc) 33
    obtain ⟨f0, f1, f2, f3, f4, f5⟩ := HSX.out
    have C := HC.out _ HBA.out a b t p c (.slice q m cc) ⟨_, _, _, rfl⟩
    cases hgo : off who ((a, b), t, p, c, [])
    ·rw [hgo] at C
     have HSN2 : Hid (stays who (l.take (j + 1)) = stays who (l.take j) ++ [(((a, b), t, p, c, ss), .slice q m cc)]) := by
      have h9 := HSN.out
      rw [show off who ((a, b), t, p, c, ss) = false from hgo, if_neg (by simp)] at h9
      exact h9
     have hin : i < n := by omega
     have hinz : (i : Int) < n := by omega
     clear hgo HSN
     go_wp2_with fail
     refine C.mono ?_
     rintro e w2 ⟨rfl, hb2⟩
     have HB2 : Hid (Below W0.heap.size W0 w2) := HBA.out.trans (hb2.mono HBA.out.size)
     have hbw : Below wr.heap.size wr w2 := bel HNW.out hb2
     obtain ⟨d0, d1, d2, d3, d4, d5⟩ := HSX.out.below hb2
     have HR2 : Hid (Row w2 g n i j (stays who (l.take j)) l) := HRR.out.2.below hbw
     have HO2 : Hid (∀ y ∈ l, w2.ownsRow W0.heap.size 30 2 y.2 y.1.2.2.2.2.length (flatD y.1.2.2.2.2)) := fun y hy => own_below (HO.out y hy) hbw
     have hsome := HR2.out.cell.1
     have hfr := HR2.out.cell.2
     obtain ⟨y0, z0⟩ := Option.isSome_iff_exists.1 (hsome (i * 6) (by omega))
     obtain ⟨y1, z1⟩ := Option.isSome_iff_exists.1 (hsome (i * 6 + 1) (by omega))
     obtain ⟨y2, z2⟩ := Option.isSome_iff_exists.1 (hsome (i * 6 + 2) (by omega))
     obtain ⟨y3, z3⟩ := Option.isSome_iff_exists.1 (hsome (i * 6 + 3) (by omega))
     obtain ⟨y4, z4⟩ := Option.isSome_iff_exists.1 (hsome (i * 6 + 4) (by omega))
     obtain ⟨y5, z5⟩ := Option.isSome_iff_exists.1 (hsome (i * 6 + 5) (by omega))
     have g0 := hfr (i * 6)
     have g1 := hfr (i * 6 + 1)
     have g2 := hfr (i * 6 + 2)
     have g3 := hfr (i * 6 + 3)
     have g4 := hfr (i * 6 + 4)
     have g5 := hfr (i * 6 + 5)
     have HNE : Hid (g ≠ wr.heap.size) := by
      obtain ⟨cur, hc⟩ := row_block HRR.out.2
      have := (Array.getElem?_eq_some_iff.1 hc).1
      exact Nat.ne_of_lt this
     have HP : Hid ((stays who (l.take (j + 1))).length = i + 1 ∧ Row (w6s w2 g (i * 6) ((a, b), t, p, c, ss) (.slice q m cc)) g n (i + 1) (j + 1) (stays who (l.take (j + 1))) l) := by
      unfold Hid
      rw [HSN2.out]
      exact ⟨by simp [HRR.out.1], HR2.out.put hij hin⟩
     have HO3 : Hid (∀ y ∈ l, (w6s w2 g (i * 6) ((a, b), t, p, c, ss) (.slice q m cc)).ownsRow W0.heap.size 30 2 y.2 y.1.2.2.2.2.length (flatD y.1.2.2.2.2)) := by
      obtain ⟨cur, hc⟩ := row_block HR2.out
      exact w6_own hc HO2.out
     have HB3 : Hid (Below W0.heap.size W0 (w6s w2 g (i * 6) ((a, b), t, p, c, ss) (.slice q m cc))) := w6s_below HB2.out HG.out _ _
     clear hb2 hbw C a0 a1 a2 a3 a4 a5 f0 f1 f2 f3 f4 f5 HR2 HRR HSN2 hsome hfr HNW HBA HSX HO2
     go_wp2_with fail
     go_roundw
     case rel => exact ⟨i + 1, j + 1, by omega, by omega, by go_num, by go_num, HP.out, HO3, HB3⟩
     case measure => simp [intOf]; omega
    ·rw [hgo] at C
     have HSN2 : Hid (stays who (l.take (j + 1)) = stays who (l.take j)) := by
      have h9 := HSN.out
      rw [show off who ((a, b), t, p, c, ss) = true from hgo, if_pos rfl] at h9
      exact h9
     clear hgo HSN
     go_wp2_with fail
     refine C.mono ?_
     rintro e w2 ⟨rfl, hb2⟩
     have HB2 : Hid (Below W0.heap.size W0 w2) := HBA.out.trans (hb2.mono HBA.out.size)
     have hbw : Below wr.heap.size wr w2 := bel HNW.out hb2
     have HR2 : Hid ((stays who (l.take (j + 1))).length = i ∧ Row w2 g n i (j + 1) (stays who (l.take (j + 1))) l) := by
      unfold Hid
      rw [HSN2.out]
      exact ⟨HRR.out.1, (HRR.out.2.below hbw).skip⟩
     have HO2 : Hid (∀ y ∈ l, w2.ownsRow W0.heap.size 30 2 y.2 y.1.2.2.2.2.length (flatD y.1.2.2.2.2)) := fun y hy => own_below (HO.out y hy) hbw
     clear hb2 hbw C a0 a1 a2 a3 a4 a5 f0 f1 f2 f3 f4 f5 HRR HSN2 HNW HBA HSX
     go_wp2_with fail
     go_roundw
     case rel => exact ⟨i, j + 1, by omega, by omega, rfl, by go_num, HR2.out, HO2, HB2⟩
     case measure => simp [intOf]; omega
   ·obtain rfl : j = n := by omega
    have hin : i < j := hij
    have hiz : (i : Int) ≤ j := by omega
    have hci : ¬ j = i := by omega
    have hcl := fun ty => clear_ops wr g i j j ty hin HRR.out.2.cell.1 HRR.out.2.cell.2
    obtain ⟨Z, hZ⟩ : ∃ Z, Z = (Builtin.zeroCells zO.cells (j - i)).toList := ⟨_, rfl⟩
    rw [← hZ] at hcl
    have HB3 : Hid (Below W0.heap.size W0 (wr.setCells g (i * 6) Z)) := below_setCells HG.out _ _ _ HB.out
    have HM : Hid (OpsC W0.heap.size (wr.setCells g (i * 6) Z) (.slice (some ⟨g, 0, none⟩) i j) ((stays who l).map (·.1))) := by
     obtain ⟨e1, R, h1, ⟨cur, c1, c2, c3⟩, h3, _⟩ := HRR.out
     have hlt2 : l.take j = l := List.take_of_length_le (by rw [HL.out]; exact Nat.le_refl _)
     rw [hlt2] at e1 h3
     have hZl : Z.length = (j - i) * 6 := by rw [hZ, Array.length_toList, size_zeroCells]; rfl
     refine ⟨g, j, stays who l, by rw [List.length_map, e1], HG.out, rfl, ⟨Bi.setM cur (i * 6) Z, Bi.heap_set _ _ _ _ c1, by rw [Bi.setM_size]; exact c2, ?_⟩, by rw [List.length_map, e1]; omega, hn, fun y hy => ?_⟩
     ·rw [e1]
      have hcl6 : cur.toList.length = j * 6 := by simpa using c2
      rw [h1, List.take_of_length_le (by rw [hcl6]; exact Nat.le_refl _)] at c3
      rw [← h3, (flat_take R (by omega)).1, ← c3]
      apply List.ext_getElem?
      intro k
      by_cases hk : k < i * 6
      ·rw [List.getElem?_take_of_lt hk, List.getElem?_take_of_lt hk, Bi.setM_get _ _ _ (by rw [hZl, c2]; omega), if_pos hk]
      ·rw [List.getElem?_eq_none (by rw [List.length_take]; omega), List.getElem?_eq_none (by rw [List.length_take]; omega)]
     ·have hy2 := HO.out y (HSB.out y hy)
      refine own_stay hy2 fun q hq => ?_
      obtain ⟨hql, cur2, hc⟩ := own_lt hy2 q hq
      have hne : q ≠ g := fun e => by
       rw [e, c1] at hc
       injection hc with hc
       injection hc with _ hc _
       exact absurd hc (by decide)
      have h9 := Bi.set_grown (g := g) Z (i * 6) wr wr ⟨rfl, rfl, rfl, Nat.le_refl _, fun _ _ _ => rfl⟩
      exact h9.block q hql (by intro e; injection e with e; exact hne e)
    clear hZ HRR HO
    go_wp2_with fail
    go_ret
    exact ⟨_, rfl, HM.out, HB3.out⟩
set_option maxRecDepth 100000 in
set_option maxHeartbeats 2000000 in
theorem opsOf_any (D : Nat) (S : Dq) (F : Nat → Prop) (who : Int) (w : World) (h : DocAt w D S F) :
  Calls Tryz.prog 29 #[.pointer (some ⟨D, 0, none⟩), .int .i64 who] w fun e w' => ∃ v', e = .returned v' ∧ OpsC w.heap.size w' v' (Bf.mine S who) ∧ Below w.heap.size w w' := by
 have hfew : S.ops.length ≤ 400 := by obtain ⟨m, G, rfl, ok, hF⟩ := h; exact ok.inv.few
 have HB0 : Hid (Below w.heap.size w (w.alloc (.cells #[.int .i64 who] 3))) := (Below.refl _ w).alloc (Nat.le_refl _) _
 have C := ops_get D S F _ (h.below HB0.out)
 have hA : (w.alloc (.cells #[.int .i64 who] 3)).cell? ⟨w.heap.size, 0, none⟩ = some (.int .i64 who) := blk_cell (heap_alloc_new w _) rfl
 have HZ : Hid ((w.alloc (.cells #[.int .i64 who] 3)).heap.size = w.heap.size + 1) := by rw [Hid]; simp
 have HA : Hid ((w.alloc (.cells #[.int .i64 who] 3)).cell? ⟨w.heap.size, 0, none⟩ = some (.int .i64 who)) := hA
 clear h hA
 go_enter Tryz.func29, Tryz.ntmps29
 go_wp2_with fail
 refine C.mono ?_
 rintro e w1 ⟨v1, rfl, hn1, hb1⟩
 obtain ⟨g, L, rfl, hg, hL, hr, hl, ho⟩ := hn1
 have hLl : L.length = S.ops.length := by rw [← hL, List.length_map]
 have C2 := deleteFunc_any _ w1 g S.ops.length L w.heap.size who hLl hr ho hg hb1 (by omega) HA.out
 have HB1 : Hid (Below w.heap.size w w1) := bel HB0.out hb1
 have HML : Hid ((stays who L).map (·.1) = Bf.mine S who) := by rw [Hid, stays_map, hL]; rfl
 clear C hg hr ho hL hl hLl hb1
 go_wp2_with fail
 refine C2.mono ?_
 rintro e w2 ⟨v2, rfl, ho2, hb2⟩
 have HB2 : Hid (Below w.heap.size w w2) := HB0.out.trans (hb2.mono HB0.out.size)
 have HO2 : Hid (OpsC w.heap.size w2 v2 (Bf.mine S who)) := by rw [Hid, ← HML.out]; exact ho2.mono HB0.out.size
 clear C2 ho2 hb2
 go_wp2_with fail
 go_ret
 exact ⟨_, rfl, HO2.out, HB2.out⟩
end Bh
end Go.Proofs.YtnbnniapllkjlaaGreatDoor
