
import Derived.Test.YtnbnniapllkjlaaGreatDoorBi
import Derived.Test.YtnbnniapllkjlaaGreatDoorBg
import Derived.Test.YtnbnniapllkjlaaGreatDoorBh
import Derived.Test.YtnbnniapllkjlaaGreatDoorP2
import Derived.Deep.RegionHeld3
namespace Go.Proofs.YtnbnniapllkjlaaGreatDoor
namespace Bj
set_option linter.unusedVariables false
set_option linter.unusedSimpArgs false
open Go.ChangeShapes Go.WideShapes Go.ChangeAt Go.RowKit Cm Ka Kb Na Om Oa Oz Oc Og Oi Hm Ia Ic Ie Im Um Ba Bf Bg Bh Bi
open La (bel bel_drew own_below flat errV_ne errV_zero)
open Bm (Leaf none0 ahd has leafAt isL)
def opZ : Value := .agg #[.int .i64 0, .int .i64 0, .int .i64 0, .string ⟨#[]⟩, .int .i64 0, .slice none 0 0]
theorem put6_heap {W : World} {g : Nat} {a b t : Int} {p : ByteArray} {c : Int} {v : Value} {z0 z1 z2 z3 z4 z5 : Value} (h : W.heap[g]? = some (.cells #[z0, z1, z2, z3, z4, z5] 33)) : ((((((W.setCell ⟨g, 0, none⟩ (.int .i64 a)).setCell ⟨g, 1, none⟩ (.int .i64 b)).setCell ⟨g, 2, none⟩ (.int .i64 t)).setCell ⟨g, 3, none⟩ (.string p)).setCell ⟨g, 4, none⟩ (.int .i64 c)).setCell ⟨g, 5, none⟩ (v)).heap[g]? = some (.cells #[.int .i64 a, .int .i64 b, .int .i64 t, .string p, .int .i64 c, v] 33) := by
 rw [set_heap (set_heap (set_heap (set_heap (set_heap (set_heap h)))))]; rfl
theorem put6_block (W : World) (g : Nat) (a b t : Int) (p : ByteArray) (c : Int) (v : Value) (k : Nat) (h : k ≠ g) : ((((((W.setCell ⟨g, 0, none⟩ (.int .i64 a)).setCell ⟨g, 1, none⟩ (.int .i64 b)).setCell ⟨g, 2, none⟩ (.int .i64 t)).setCell ⟨g, 3, none⟩ (.string p)).setCell ⟨g, 4, none⟩ (.int .i64 c)).setCell ⟨g, 5, none⟩ (v)).heap[k]? = W.heap[k]? := by
 rw [set_block _ _ _ _ h, set_block _ _ _ _ h, set_block _ _ _ _ h, set_block _ _ _ _ h, set_block _ _ _ _ h, set_block _ _ _ _ h]
theorem chg_set {F : Nat → Prop} {W0 W : World} (hc : Chg F W0 W) (p : Addr) (hg : F p.block ∨ W0.heap.size ≤ p.block) (v : Value) : Chg F W0 (W.setCell p v) :=
 ⟨hc.os, hc.tape, hc.output, by rw [set_size]; exact hc.size, fun k hk hf => by
  rw [set_block _ _ _ _ (fun e => by rcases hg with q | q; exact hf (e ▸ q); omega)]
  exact hc.block k hk hf⟩
theorem put6_chg {F : Nat → Prop} {W0 W : World} (hc : Chg F W0 W) (g : Nat) (hg : F g ∨ W0.heap.size ≤ g) (a b t : Int) (p : ByteArray) (c : Int) (v : Value) : Chg F W0 ((((((W.setCell ⟨g, 0, none⟩ (.int .i64 a)).setCell ⟨g, 1, none⟩ (.int .i64 b)).setCell ⟨g, 2, none⟩ (.int .i64 t)).setCell ⟨g, 3, none⟩ (.string p)).setCell ⟨g, 4, none⟩ (.int .i64 c)).setCell ⟨g, 5, none⟩ (v)) :=
 chg_set (chg_set (chg_set (chg_set (chg_set (chg_set hc ⟨g, 0, none⟩ hg _) ⟨g, 1, none⟩ hg _) ⟨g, 2, none⟩ hg _) ⟨g, 3, none⟩ hg _) ⟨g, 4, none⟩ hg _) ⟨g, 5, none⟩ hg _
structure Tk (base : Nat) (w : World) (T M : Nat) (who : Int) (ops : List Ox) (vb : Value) (B : List Leaf) : Prop where
 blk : w.heap[T]? = some (.cells #[.int .i64 who, vb, .map (some M)] 97)
 book : w.ownsRow base 86 3 vb B.length (flat B)
 map : MapC w M ops
 ok : Bf.Ok B
 tlo : base ≤ T
 len : B.length ≤ 1000
 bs : base ≤ w.heap.size
theorem Tk.lt {base : Nat} {w : World} {T M : Nat} {who : Int} {ops : List Ox} {vb : Value} {B : List Leaf} (h : Tk base w T M who ops vb B) : T < w.heap.size := (Array.getElem?_eq_some_iff.1 h.blk).1
theorem Tk.below {base : Nat} {w w' : World} {T M : Nat} {who : Int} {ops : List Ox} {vb : Value} {B : List Leaf} (h : Tk base w T M who ops vb B) (hb : Below w.heap.size w w') : Tk base w' T M who ops vb B :=
 ⟨by rw [hb.block T h.lt]; exact h.blk, own_below h.book hb, h.map.below hb, h.ok, h.tlo, h.len, Nat.le_trans h.bs hb.size⟩
theorem Tk.shape {base : Nat} {w : World} {T M : Nat} {who : Int} {ops : List Ox} {vb : Value} {B : List Leaf} (h : Tk base w T M who ops vb B) (h0 : B ≠ []) : ∃ g c, vb = .slice (some ⟨g, 0, none⟩) B.length c ∧ base ≤ g ∧ g < w.heap.size ∧ g ≠ T := by
 rcases h.book.2 with ⟨_, e⟩ | ⟨g, c, cur, e, h1, h2, _⟩
 ·exact absurd (List.eq_nil_of_length_eq_zero e) h0
 ·refine ⟨g, c, e, h1, (Array.getElem?_eq_some_iff.1 h2).1, fun e9 => ?_⟩
  rw [e9, h.blk] at h2
  injection h2 with h2
  injection h2 with _ h2 _
  exact absurd h2 (by decide)
theorem Tk.at {base : Nat} {w : World} {T M : Nat} {who : Int} {ops : List Ox} {g n c : Nat} {B : List Leaf} (h : Tk base w T M who ops (.slice (some ⟨g, 0, none⟩) n c) B) {j : Nat} (hj : j < B.length) : La.At w g 0 j (B.getD j none0) := by
 obtain ⟨hn, p, c9, hv, hl⟩ := La.own_book h.book
 injection hv with e1 e2 e3
 obtain ⟨b, o, hp, hc⟩ := hl.some (by intro e; rw [e] at hj; simp at hj)
 rw [hp] at e1
 injection e1 with e1
 injection e1 with e1 e2
 subst e1 e2
 exact hc j hj
def bhd (B : List Leaf) (i : Nat) : ByteArray := if i + 1 < B.length then (B.getD (i + 1) none0).1 else ⟨#[]⟩
def AnPost (base T M g : Nat) (who : Int) (B : List Leaf) (i : Nat) (w : World) (e : Ending) (w' : World) : Prop :=
 (Pm.betErr (B.getD i none0).1.toList (bhd B i).toList who ≠ 0 ∧ e = .returned (.tuple #[opZ, errV (Pm.betErr (B.getD i none0).1.toList (bhd B i).toList who)]) ∧ Below w.heap.size w w') ∨
 (Pm.betErr (B.getD i none0).1.toList (bhd B i).toList who = 0 ∧ e = .returned (.tuple #[.agg #[.int .i64 0, .int .i64 0, .int .i64 1, .string (stepP (B.getD i none0).1 (bhd B i) who), .int .i64 (B.getD i none0).2.1, .slice none 0 0], .nilIface]) ∧
  (∃ v', w'.heap[T]? = some (.cells #[.int .i64 who, v', .map (some M)] 97) ∧ w'.ownsRow base 86 3 v' (insB B (i + 1) (stepP (B.getD i none0).1 (bhd B i) who, (B.getD i none0).2.1, false)).length (flat (insB B (i + 1) (stepP (B.getD i none0).1 (bhd B i) who, (B.getD i none0).2.1, false)))) ∧ Chg (fun k => k = T ∨ k = g) w w')
set_option maxRecDepth 100000 in
set_option maxHeartbeats 4000000 in
theorem anew_any (base T M : Nat) (who : Int) (ops : List Ox) (g n c : Nat) (B : List Leaf) (i : Nat) (w : World) (h : Tk base w T M who ops (.slice (some ⟨g, 0, none⟩) n c) B) (hn : B.length = n) (hi : i < n) :
  Calls Tryz.prog 67 #[.pointer (some ⟨T, 0, none⟩), .int .i64 i] w (AnPost base T M g who B i w) := by
 have hin : i < B.length := by rw [hn]; exact hi
 have HTB : Hid (∀ W, Below w.heap.size w W → Tk base W T M who ops (.slice (some ⟨g, 0, none⟩) n c) B) := fun W hb => h.below hb
 have HN : Hid (B.length = n) := hn
 have HGT : Hid (base ≤ g ∧ g < w.heap.size ∧ g ≠ T) := by
  obtain ⟨g9, c9, e, h1, h2, h3⟩ := h.shape (by intro e; rw [e] at hin; simp at hin)
  injection e with e _ _
  injection e with e
  injection e with e
  subst e
  exact ⟨h1, h2, h3⟩
 have HTL : Hid (T < w.heap.size) := h.lt
 have hn3 : n ≤ 1000 := by rw [← hn]; exact h.len
 have hlk : ∀ j, j < B.length → Pm.chk (B.getD j none0).1.toList = 0 := fun j hj => (Bm.leafE_zero.1 (h.ok.leaf _ (Bm.getD_mem hj))).1
 have hsz : ∀ p : ByteArray, Pm.chk p.toList = 0 → p.size ≤ maxLen := fun p hp => by
  have := (Bm.chk_pos hp).2
  rw [Om.len_eq] at this
  unfold maxLen; omega
 obtain ⟨⟨xp, xl, xs⟩, hx⟩ : ∃ x, B.getD i none0 = x := ⟨_, rfl⟩
 have HXC : Hid (xp.size ≤ maxLen) := hsz _ (by have := hlk i hin; rw [hx] at this; exact this)
 have HX : Hid (B.getD i none0 = (xp, xl, xs)) := hx
 obtain ⟨bh, hbh⟩ : ∃ bh, bhd B i = bh := ⟨_, rfl⟩
 have HBC : Hid (bh.size ≤ maxLen) := by
  rw [Hid, ← hbh]; unfold bhd
  split
  ·exact hsz _ (hlk _ (by assumption))
  ·unfold maxLen; show (0 : Nat) ≤ _; omega
 have CB : ∀ W, Calls Tryz.prog 43 #[.string xp, .string bh, .int .i64 who] W fun e w' => e = .returned (.tuple #[.string (stepP xp bh who), errV (Pm.betErr xp.toList bh.toList who)]) ∧ Below W.heap.size W w' := fun W => Pe.between_any xp bh who W HXC.out HBC.out
 unfold AnPost
 rw [hbh, hx]
 dsimp only
 obtain ⟨st, hst⟩ : ∃ st, stepP xp bh who = st := ⟨_, rfl⟩
 obtain ⟨E, hEq⟩ : ∃ E, Pm.betErr xp.toList bh.toList who = E := ⟨_, rfl⟩
 rw [hst, hEq]
 rw [hst, hEq] at CB
 clear hst hEq
 have HW1 : Hid (Below w.heap.size w (w.alloc (.cells #[.int .i64 0, .int .i64 0, .int .i64 0, .string ⟨#[]⟩, .int .i64 0, .slice none 0 0] 33))) := (Below.refl _ w).alloc (Nat.le_refl _) _
 have HR1 : Hid ((w.alloc (.cells #[.int .i64 0, .int .i64 0, .int .i64 0, .string ⟨#[]⟩, .int .i64 0, .slice none 0 0] 33)).heap[w.heap.size]? = some (.cells #[.int .i64 0, .int .i64 0, .int .i64 0, .string ⟨#[]⟩, .int .i64 0, .slice none 0 0] 33)) := heap_alloc_new w _
 have HCL : Hid (∀ W, Below w.heap.size w W → W.cell? ⟨T, 0, none⟩ = some (.int .i64 who) ∧ W.cell? ⟨T, 1, none⟩ = some (.slice (some ⟨g, 0, none⟩) n c) ∧ W.cell? ⟨g, i * 3, none⟩ = some (.string xp) ∧ W.cell? ⟨g, i * 3 + 1, none⟩ = some (.int .i64 xl)) := fun W hb => by
  have t := HTB.out W hb
  have a := t.at hin
  rw [hx] at a
  obtain ⟨a1, a2, _⟩ := a
  rw [Nat.zero_add] at a1 a2
  exact ⟨blk_cell t.blk (i := 0) rfl, blk_cell t.blk (i := 1) rfl, a1, a2⟩
 have HWR : Hid (IntKind.i64.wrap ((i : Int) + 1) = (i : Int) + 1) := wrap_in (by omega) (by omega)
 by_cases hl : i + 1 < n
 ·have hbb : bh = (B.getD (i + 1) none0).1 := by rw [← hbh]; unfold bhd; rw [if_pos (by rw [hn]; exact hl)]
  have HNX : Hid (∀ W, Below w.heap.size w W → W.cell? ⟨g, (i + 1) * 3, none⟩ = some (.string bh)) := fun W hb => by
   have a := (HTB.out W hb).at (j := i + 1) (by rw [HN.out]; exact hl)
   have := a.1
   rwa [Nat.zero_add, ← hbb] at this
  have hlz : (i : Int) + 1 < n := by omega
  have htn : ((i : Int) + 1).toNat = i + 1 := by omega
  have h0z : (0 : Int) ≤ (i : Int) + 1 := by omega
  clear hbb
  by_cases hE : E = 0
  ·clear h hin hlk hsz hx hbh hn
   have HE : Hid (E = 0) := hE
   rw [hE] at CB
   clear hE
   simp only [errV_zero] at CB
   obtain ⟨d0, d1, d2, d3⟩ := HCL.out _ HW1.out
   have d4 := HNX.out _ HW1.out
   have hwr := HWR.out
   go_enter Tryz.func67, Tryz.ntmps67
   go_wp2_with fail
   go_region_held3 (fun W => W.cell? ⟨T, 1, none⟩ = some (.slice (some ⟨g, 0, none⟩) n c) ∧ W.cell? ⟨g, i * 3, none⟩ = some (.string xp) ∧ W.cell? ⟨T, 0, none⟩ = some (.int .i64 who)) (first | (go_keep; done) | (refine ⟨keep_cell hb7 ?_, keep_cell hb7 ?_, keep_cell hb7 ?_⟩ <;> (first | assumption | (go_split_ands; assumption)))) (first
    | (go_at_call 43; refine (CB _).mono ?_; rintro e w2 ⟨rfl, hb7⟩; have HB2 : Hid (Below w.heap.size w w2) := bel HW1.out.drew hb7; have HR2 : Hid (w2.heap[w.heap.size]? = some (.cells #[.int .i64 0, .int .i64 0, .int .i64 0, .string ⟨#[]⟩, .int .i64 0, .slice none 0 0] 33)) := (by rw [Hid, hb7.block _ (by simp)]; exact HR1.out)))
   clear hb7 CB d0 d1 d2 d3 d4
   obtain ⟨d0, d1, d2, d3⟩ := HCL.out _ HB2.out
   have HB3 : Hid (Below w2.heap.size w2 (w2.alloc (.cells #[.string st, .int .i64 xl, .bool false] 86))) := (Below.refl _ _).alloc (Nat.le_refl _) _
   have CI := insert_any base w2.heap.size g n c (i + 1) B (st, xl, false) (w2.alloc (.cells #[.string st, .int .i64 xl, .bool false] 86)) (own_below (by have q := (HTB.out w2 HB2.out).book; rw [HN.out] at q; exact q) HB3.out) HN.out (by omega) (by omega) (Nat.le_trans (HTB.out w2 HB2.out).bs HB3.out.size) (heap_alloc_new w2 _) (by have q1 := HGT.out.2.1; have q2 := HB2.out.size; omega)
   rw [show ((i + 1 : Nat) : Int) = (i : Int) + 1 by omega] at CI
   have e1 := fun O => (HCL.out _ (HB2.out.alloc HB2.out.size O)).2.1
   go_wp2_with fail
   refine CI.mono ?_
   rintro e w4 ⟨v4, rfl, ho4, hg4⟩
   obtain ⟨p4, n4, c4, rfl, _⟩ := own_shape ho4
   have HO4 : Hid (w4.ownsRow base 86 3 (.slice p4 n4 c4) (insB B (i + 1) (st, xl, false)).length (flat (insB B (i + 1) (st, xl, false)))) := ho4
   have HC4 : Hid (Chg (fun k => k = T ∨ k = g) w w4) := (Chg.ofBelow (HB2.out.trans (HB3.out.mono HB2.out.size)) _).trans (Chg.grown hg4 (fun k hk => by injection hk with hk; exact Or.inr hk.symm))
   have HR4 : Hid (w4.heap[w.heap.size]? = some (.cells #[.int .i64 0, .int .i64 0, .int .i64 0, .string ⟨#[]⟩, .int .i64 0, .slice none 0 0] 33)) := by
    have q1 := HGT.out.2.1
    have q2 : w.heap.size < w2.heap.size := (Array.getElem?_eq_some_iff.1 HR2.out).1
    rw [Hid, hg4.block _ (Nat.lt_of_lt_of_le q2 HB3.out.size) (by intro e; injection e with e; have e9 : w.heap.size = g := e; omega), HB3.out.block _ q2]; exact HR2.out
   have HT4 : Hid (w4.heap[T]? = some (.cells #[.int .i64 who, .slice (some ⟨g, 0, none⟩) n c, .map (some M)] 97)) := by
    have q2 : T < w2.heap.size := Nat.lt_of_lt_of_le HTL.out HB2.out.size
    rw [Hid, hg4.block _ (Nat.lt_of_lt_of_le q2 HB3.out.size) (by intro e; injection e with e; exact HGT.out.2.2 e.symm), HB3.out.block _ q2]; exact (HTB.out w2 HB2.out).blk
   have HTR : Hid (T ≠ w.heap.size) := Nat.ne_of_lt HTL.out
   clear CI ho4 hg4 d0 d1 d2 d3 e1 HB3
   have t1 := blk_cell HT4.out (i := 1) (u := .slice (some ⟨g, 0, none⟩) n c) rfl
   have t2 := blk_free HT4.out (i := 1)
   have HR5 : Hid ((w4.setCell ⟨T, 1, none⟩ (.slice p4 n4 c4)).heap[w.heap.size]? = some (.cells #[.int .i64 0, .int .i64 0, .int .i64 0, .string ⟨#[]⟩, .int .i64 0, .slice none 0 0] 33)) := by rw [Hid, set_block _ _ _ _ HTR.out.symm]; exact HR4.out
   have HT5 : Hid ((w4.setCell ⟨T, 1, none⟩ (.slice p4 n4 c4)).heap[T]? = some (.cells #[.int .i64 who, .slice p4 n4 c4, .map (some M)] 97)) := set_heap HT4.out
   have z0 := blk_cell HR5.out (i := 0) (u := .int .i64 0) rfl
   have y0 := blk_free HR5.out (i := 0)
   have z1 := blk_cell HR5.out (i := 1) (u := .int .i64 0) rfl
   have y1 := blk_free HR5.out (i := 1)
   have z2 := blk_cell HR5.out (i := 2) (u := .int .i64 0) rfl
   have y2 := blk_free HR5.out (i := 2)
   have z3 := blk_cell HR5.out (i := 3) (u := .string ⟨#[]⟩) rfl
   have y3 := blk_free HR5.out (i := 3)
   have z4 := blk_cell HR5.out (i := 4) (u := .int .i64 0) rfl
   have y4 := blk_free HR5.out (i := 4)
   have z5 := blk_cell HR5.out (i := 5) (u := .slice none 0 0) rfl
   have y5 := blk_free HR5.out (i := 5)
   have HW : Hid ((((((((w4.setCell ⟨T, 1, none⟩ (.slice p4 n4 c4)).setCell ⟨w.heap.size, 0, none⟩ (.int .i64 0)).setCell ⟨w.heap.size, 1, none⟩ (.int .i64 0)).setCell ⟨w.heap.size, 2, none⟩ (.int .i64 1)).setCell ⟨w.heap.size, 3, none⟩ (.string st)).setCell ⟨w.heap.size, 4, none⟩ (.int .i64 xl)).setCell ⟨w.heap.size, 5, none⟩ (.slice none 0 0)).heap[w.heap.size]? = some (.cells #[.int .i64 0, .int .i64 0, .int .i64 1, .string st, .int .i64 xl, .slice none 0 0] 33)) := put6_heap HR5.out
   have HC6 : Hid (Chg (fun k => k = T ∨ k = g) w (((((((w4.setCell ⟨T, 1, none⟩ (.slice p4 n4 c4)).setCell ⟨w.heap.size, 0, none⟩ (.int .i64 0)).setCell ⟨w.heap.size, 1, none⟩ (.int .i64 0)).setCell ⟨w.heap.size, 2, none⟩ (.int .i64 1)).setCell ⟨w.heap.size, 3, none⟩ (.string st)).setCell ⟨w.heap.size, 4, none⟩ (.int .i64 xl)).setCell ⟨w.heap.size, 5, none⟩ (.slice none 0 0))) := put6_chg (HC4.out.setCell (p := ⟨T, 1, none⟩) (Or.inl rfl) _) _ (Or.inr (Nat.le_refl _)) _ _ _ _ _ _
   have HT6 : Hid ((((((((w4.setCell ⟨T, 1, none⟩ (.slice p4 n4 c4)).setCell ⟨w.heap.size, 0, none⟩ (.int .i64 0)).setCell ⟨w.heap.size, 1, none⟩ (.int .i64 0)).setCell ⟨w.heap.size, 2, none⟩ (.int .i64 1)).setCell ⟨w.heap.size, 3, none⟩ (.string st)).setCell ⟨w.heap.size, 4, none⟩ (.int .i64 xl)).setCell ⟨w.heap.size, 5, none⟩ (.slice none 0 0)).heap[T]? = some (.cells #[.int .i64 who, .slice p4 n4 c4, .map (some M)] 97)) := by rw [Hid, put6_block _ _ _ _ _ _ _ _ _ HTR.out]; exact HT5.out
   have HO6 : Hid ((((((((w4.setCell ⟨T, 1, none⟩ (.slice p4 n4 c4)).setCell ⟨w.heap.size, 0, none⟩ (.int .i64 0)).setCell ⟨w.heap.size, 1, none⟩ (.int .i64 0)).setCell ⟨w.heap.size, 2, none⟩ (.int .i64 1)).setCell ⟨w.heap.size, 3, none⟩ (.string st)).setCell ⟨w.heap.size, 4, none⟩ (.int .i64 xl)).setCell ⟨w.heap.size, 5, none⟩ (.slice none 0 0)).ownsRow base 86 3 (.slice p4 n4 c4) (insB B (i + 1) (st, xl, false)).length (flat (insB B (i + 1) (st, xl, false)))) := by
    refine own_stay HO4.out fun k hk => ?_
    obtain ⟨_, cur, hc⟩ := own_lt HO4.out k hk
    have k1 : k ≠ T := fun e => by rw [e, HT4.out] at hc; injection hc with hc; injection hc with _ hc _; exact absurd hc (by decide)
    have k2 : k ≠ w.heap.size := fun e => by rw [e, HR4.out] at hc; injection hc with hc; injection hc with _ hc _; exact absurd hc (by decide)
    rw [put6_block _ _ _ _ _ _ _ _ _ k2, set_block _ _ _ _ k1]
   clear HT5 HO4 HC4 HR4 HR5 HTB HCL
   go_wp2_with fail
   (try simp only [Exit.inBlock, Exit.then])
   generalize hWq : (((((((w4.setCell ⟨T, 1, none⟩ (.slice p4 n4 c4)).setCell ⟨w.heap.size, 0, none⟩ (.int .i64 0)).setCell ⟨w.heap.size, 1, none⟩ (.int .i64 0)).setCell ⟨w.heap.size, 2, none⟩ (.int .i64 1)).setCell ⟨w.heap.size, 3, none⟩ (.string st)).setCell ⟨w.heap.size, 4, none⟩ (.int .i64 xl)).setCell ⟨w.heap.size, 5, none⟩ (.slice none 0 0)) = W at HW HC6 HT6 HO6 ⊢
   clear hWq z0 z1 z2 z3 z4 z5 y0 y1 y2 y3 y4 y5 t1 t2
   refine bodyPost_ret (v := .tuple #[.agg #[.int .i64 0, .int .i64 0, .int .i64 1, .string st, .int .i64 xl, .slice none 0 0], .nilIface]) ?_ rfl ?_
   ·simp [results]
    rw [show (asAddr (Value.pointer (some ⟨w.heap.size, 0, none⟩))).run Tryz.prog W = .ok ⟨w.heap.size, 0, none⟩ W from rfl]
    simp [If.load_op HW.out, Result.andThen]
   ·exact Or.inr ⟨HE.out, rfl, ⟨_, HT6.out, HO6.out⟩, HC6.out⟩
  ·clear h hin hlk hsz hx hbh hn
   have HE : Hid (E ≠ 0) := hE
   simp only [errV_ne hE] at CB
   clear hE
   obtain ⟨d0, d1, d2, d3⟩ := HCL.out _ HW1.out
   have d4 := HNX.out _ HW1.out
   have hwr := HWR.out
   go_enter Tryz.func67, Tryz.ntmps67
   go_wp2_with fail
   go_region_held3 (fun W => W.cell? ⟨T, 1, none⟩ = some (.slice (some ⟨g, 0, none⟩) n c) ∧ W.cell? ⟨g, i * 3, none⟩ = some (.string xp) ∧ W.cell? ⟨T, 0, none⟩ = some (.int .i64 who)) (first | (go_keep; done) | (refine ⟨keep_cell hb7 ?_, keep_cell hb7 ?_, keep_cell hb7 ?_⟩ <;> (first | assumption | (go_split_ands; assumption)))) (first
    | (go_at_call 43; refine (CB _).mono ?_; rintro e w2 ⟨rfl, hb7⟩; have HB2 : Hid (Below w.heap.size w w2) := bel HW1.out.drew hb7; have HR2 : Hid (w2.heap[w.heap.size]? = some (.cells #[.int .i64 0, .int .i64 0, .int .i64 0, .string ⟨#[]⟩, .int .i64 0, .slice none 0 0] 33)) := (by rw [Hid, hb7.block _ (by simp)]; exact HR1.out)))
   clear hb7 CB d0 d1 d2 d3 d4
   have z0 := blk_cell HR2.out (i := 0) (u := .int .i64 0) rfl
   have y0 := blk_free HR2.out (i := 0)
   have z1 := blk_cell HR2.out (i := 1) (u := .int .i64 0) rfl
   have y1 := blk_free HR2.out (i := 1)
   have z2 := blk_cell HR2.out (i := 2) (u := .int .i64 0) rfl
   have y2 := blk_free HR2.out (i := 2)
   have z3 := blk_cell HR2.out (i := 3) (u := .string ⟨#[]⟩) rfl
   have y3 := blk_free HR2.out (i := 3)
   have z4 := blk_cell HR2.out (i := 4) (u := .int .i64 0) rfl
   have y4 := blk_free HR2.out (i := 4)
   have z5 := blk_cell HR2.out (i := 5) (u := .slice none 0 0) rfl
   have y5 := blk_free HR2.out (i := 5)
   have HW : Hid (((((((w2.setCell ⟨w.heap.size, 0, none⟩ (.int .i64 0)).setCell ⟨w.heap.size, 1, none⟩ (.int .i64 0)).setCell ⟨w.heap.size, 2, none⟩ (.int .i64 0)).setCell ⟨w.heap.size, 3, none⟩ (.string ⟨#[]⟩)).setCell ⟨w.heap.size, 4, none⟩ (.int .i64 0)).setCell ⟨w.heap.size, 5, none⟩ (.slice none 0 0)).heap[w.heap.size]? = some (.cells #[.int .i64 0, .int .i64 0, .int .i64 0, .string ⟨#[]⟩, .int .i64 0, .slice none 0 0] 33)) := put6_heap HR2.out
   have HC3 : Hid (Chg (fun _ => False) w ((((((w2.setCell ⟨w.heap.size, 0, none⟩ (.int .i64 0)).setCell ⟨w.heap.size, 1, none⟩ (.int .i64 0)).setCell ⟨w.heap.size, 2, none⟩ (.int .i64 0)).setCell ⟨w.heap.size, 3, none⟩ (.string ⟨#[]⟩)).setCell ⟨w.heap.size, 4, none⟩ (.int .i64 0)).setCell ⟨w.heap.size, 5, none⟩ (.slice none 0 0))) := put6_chg (Chg.ofBelow HB2.out _) _ (Or.inr (Nat.le_refl _)) _ _ _ _ _ _
   go_wp2_with fail
   (try simp only [Exit.inBlock, Exit.then])
   generalize hWq : ((((((w2.setCell ⟨w.heap.size, 0, none⟩ (.int .i64 0)).setCell ⟨w.heap.size, 1, none⟩ (.int .i64 0)).setCell ⟨w.heap.size, 2, none⟩ (.int .i64 0)).setCell ⟨w.heap.size, 3, none⟩ (.string ⟨#[]⟩)).setCell ⟨w.heap.size, 4, none⟩ (.int .i64 0)).setCell ⟨w.heap.size, 5, none⟩ (.slice none 0 0)) = W at HW HC3 ⊢
   clear hWq z0 z1 z2 z3 z4 z5 y0 y1 y2 y3 y4 y5
   refine bodyPost_ret (v := .tuple #[opZ, .iface 76 (.int .i64 E)]) ?_ rfl ?_
   ·simp [results]
    rw [show (asAddr (Value.pointer (some ⟨w.heap.size, 0, none⟩))).run Tryz.prog W = .ok ⟨w.heap.size, 0, none⟩ W from rfl]
    simp [If.load_op HW.out, Result.andThen]
    rfl
   ·exact Or.inl ⟨HE.out, by rw [errV_ne HE.out], ⟨HC3.out.os, HC3.out.tape, HC3.out.output, HC3.out.size, fun k hk => HC3.out.block k hk (fun q => q)⟩⟩
 ·have hbb : bh = ⟨#[]⟩ := by rw [← hbh]; unfold bhd; rw [if_neg (by rw [hn]; exact hl)]
  have hlz : ¬ (i : Int) + 1 < n := by omega
  have h0z : (0 : Int) ≤ (i : Int) + 1 := by omega
  have htn : ((i : Int) + 1).toNat = i + 1 := by omega
  subst hbb
  by_cases hE : E = 0
  ·clear h hin hlk hsz hx hbh hn
   have HE : Hid (E = 0) := hE
   rw [hE] at CB
   clear hE
   simp only [errV_zero] at CB
   obtain ⟨d0, d1, d2, d3⟩ := HCL.out _ HW1.out
   have hwr := HWR.out
   go_enter Tryz.func67, Tryz.ntmps67
   go_wp2_with fail
   go_region_held3 (fun W => W.cell? ⟨T, 1, none⟩ = some (.slice (some ⟨g, 0, none⟩) n c) ∧ W.cell? ⟨g, i * 3, none⟩ = some (.string xp) ∧ W.cell? ⟨T, 0, none⟩ = some (.int .i64 who)) (first | (go_keep; done) | (refine ⟨keep_cell hb7 ?_, keep_cell hb7 ?_, keep_cell hb7 ?_⟩ <;> (first | assumption | (go_split_ands; assumption)))) (first
    | (go_at_call 43; refine (CB _).mono ?_; rintro e w2 ⟨rfl, hb7⟩; have HB2 : Hid (Below w.heap.size w w2) := bel HW1.out.drew hb7; have HR2 : Hid (w2.heap[w.heap.size]? = some (.cells #[.int .i64 0, .int .i64 0, .int .i64 0, .string ⟨#[]⟩, .int .i64 0, .slice none 0 0] 33)) := (by rw [Hid, hb7.block _ (by simp)]; exact HR1.out)))
   clear hb7 CB d0 d1 d2 d3
   obtain ⟨d0, d1, d2, d3⟩ := HCL.out _ HB2.out
   have HB3 : Hid (Below w2.heap.size w2 (w2.alloc (.cells #[.string st, .int .i64 xl, .bool false] 86))) := (Below.refl _ _).alloc (Nat.le_refl _) _
   have CI := insert_any base w2.heap.size g n c (i + 1) B (st, xl, false) (w2.alloc (.cells #[.string st, .int .i64 xl, .bool false] 86)) (own_below (by have q := (HTB.out w2 HB2.out).book; rw [HN.out] at q; exact q) HB3.out) HN.out (by omega) (by omega) (Nat.le_trans (HTB.out w2 HB2.out).bs HB3.out.size) (heap_alloc_new w2 _) (by have q1 := HGT.out.2.1; have q2 := HB2.out.size; omega)
   rw [show ((i + 1 : Nat) : Int) = (i : Int) + 1 by omega] at CI
   have e1 := fun O => (HCL.out _ (HB2.out.alloc HB2.out.size O)).2.1
   go_wp2_with fail
   refine CI.mono ?_
   rintro e w4 ⟨v4, rfl, ho4, hg4⟩
   obtain ⟨p4, n4, c4, rfl, _⟩ := own_shape ho4
   have HO4 : Hid (w4.ownsRow base 86 3 (.slice p4 n4 c4) (insB B (i + 1) (st, xl, false)).length (flat (insB B (i + 1) (st, xl, false)))) := ho4
   have HC4 : Hid (Chg (fun k => k = T ∨ k = g) w w4) := (Chg.ofBelow (HB2.out.trans (HB3.out.mono HB2.out.size)) _).trans (Chg.grown hg4 (fun k hk => by injection hk with hk; exact Or.inr hk.symm))
   have HR4 : Hid (w4.heap[w.heap.size]? = some (.cells #[.int .i64 0, .int .i64 0, .int .i64 0, .string ⟨#[]⟩, .int .i64 0, .slice none 0 0] 33)) := by
    have q1 := HGT.out.2.1
    have q2 : w.heap.size < w2.heap.size := (Array.getElem?_eq_some_iff.1 HR2.out).1
    rw [Hid, hg4.block _ (Nat.lt_of_lt_of_le q2 HB3.out.size) (by intro e; injection e with e; have e9 : w.heap.size = g := e; omega), HB3.out.block _ q2]; exact HR2.out
   have HT4 : Hid (w4.heap[T]? = some (.cells #[.int .i64 who, .slice (some ⟨g, 0, none⟩) n c, .map (some M)] 97)) := by
    have q2 : T < w2.heap.size := Nat.lt_of_lt_of_le HTL.out HB2.out.size
    rw [Hid, hg4.block _ (Nat.lt_of_lt_of_le q2 HB3.out.size) (by intro e; injection e with e; exact HGT.out.2.2 e.symm), HB3.out.block _ q2]; exact (HTB.out w2 HB2.out).blk
   have HTR : Hid (T ≠ w.heap.size) := Nat.ne_of_lt HTL.out
   clear CI ho4 hg4 d0 d1 d2 d3 e1 HB3
   have t1 := blk_cell HT4.out (i := 1) (u := .slice (some ⟨g, 0, none⟩) n c) rfl
   have t2 := blk_free HT4.out (i := 1)
   have HR5 : Hid ((w4.setCell ⟨T, 1, none⟩ (.slice p4 n4 c4)).heap[w.heap.size]? = some (.cells #[.int .i64 0, .int .i64 0, .int .i64 0, .string ⟨#[]⟩, .int .i64 0, .slice none 0 0] 33)) := by rw [Hid, set_block _ _ _ _ HTR.out.symm]; exact HR4.out
   have HT5 : Hid ((w4.setCell ⟨T, 1, none⟩ (.slice p4 n4 c4)).heap[T]? = some (.cells #[.int .i64 who, .slice p4 n4 c4, .map (some M)] 97)) := set_heap HT4.out
   have z0 := blk_cell HR5.out (i := 0) (u := .int .i64 0) rfl
   have y0 := blk_free HR5.out (i := 0)
   have z1 := blk_cell HR5.out (i := 1) (u := .int .i64 0) rfl
   have y1 := blk_free HR5.out (i := 1)
   have z2 := blk_cell HR5.out (i := 2) (u := .int .i64 0) rfl
   have y2 := blk_free HR5.out (i := 2)
   have z3 := blk_cell HR5.out (i := 3) (u := .string ⟨#[]⟩) rfl
   have y3 := blk_free HR5.out (i := 3)
   have z4 := blk_cell HR5.out (i := 4) (u := .int .i64 0) rfl
   have y4 := blk_free HR5.out (i := 4)
   have z5 := blk_cell HR5.out (i := 5) (u := .slice none 0 0) rfl
   have y5 := blk_free HR5.out (i := 5)
   have HW : Hid ((((((((w4.setCell ⟨T, 1, none⟩ (.slice p4 n4 c4)).setCell ⟨w.heap.size, 0, none⟩ (.int .i64 0)).setCell ⟨w.heap.size, 1, none⟩ (.int .i64 0)).setCell ⟨w.heap.size, 2, none⟩ (.int .i64 1)).setCell ⟨w.heap.size, 3, none⟩ (.string st)).setCell ⟨w.heap.size, 4, none⟩ (.int .i64 xl)).setCell ⟨w.heap.size, 5, none⟩ (.slice none 0 0)).heap[w.heap.size]? = some (.cells #[.int .i64 0, .int .i64 0, .int .i64 1, .string st, .int .i64 xl, .slice none 0 0] 33)) := put6_heap HR5.out
   have HC6 : Hid (Chg (fun k => k = T ∨ k = g) w (((((((w4.setCell ⟨T, 1, none⟩ (.slice p4 n4 c4)).setCell ⟨w.heap.size, 0, none⟩ (.int .i64 0)).setCell ⟨w.heap.size, 1, none⟩ (.int .i64 0)).setCell ⟨w.heap.size, 2, none⟩ (.int .i64 1)).setCell ⟨w.heap.size, 3, none⟩ (.string st)).setCell ⟨w.heap.size, 4, none⟩ (.int .i64 xl)).setCell ⟨w.heap.size, 5, none⟩ (.slice none 0 0))) := put6_chg (HC4.out.setCell (p := ⟨T, 1, none⟩) (Or.inl rfl) _) _ (Or.inr (Nat.le_refl _)) _ _ _ _ _ _
   have HT6 : Hid ((((((((w4.setCell ⟨T, 1, none⟩ (.slice p4 n4 c4)).setCell ⟨w.heap.size, 0, none⟩ (.int .i64 0)).setCell ⟨w.heap.size, 1, none⟩ (.int .i64 0)).setCell ⟨w.heap.size, 2, none⟩ (.int .i64 1)).setCell ⟨w.heap.size, 3, none⟩ (.string st)).setCell ⟨w.heap.size, 4, none⟩ (.int .i64 xl)).setCell ⟨w.heap.size, 5, none⟩ (.slice none 0 0)).heap[T]? = some (.cells #[.int .i64 who, .slice p4 n4 c4, .map (some M)] 97)) := by rw [Hid, put6_block _ _ _ _ _ _ _ _ _ HTR.out]; exact HT5.out
   have HO6 : Hid ((((((((w4.setCell ⟨T, 1, none⟩ (.slice p4 n4 c4)).setCell ⟨w.heap.size, 0, none⟩ (.int .i64 0)).setCell ⟨w.heap.size, 1, none⟩ (.int .i64 0)).setCell ⟨w.heap.size, 2, none⟩ (.int .i64 1)).setCell ⟨w.heap.size, 3, none⟩ (.string st)).setCell ⟨w.heap.size, 4, none⟩ (.int .i64 xl)).setCell ⟨w.heap.size, 5, none⟩ (.slice none 0 0)).ownsRow base 86 3 (.slice p4 n4 c4) (insB B (i + 1) (st, xl, false)).length (flat (insB B (i + 1) (st, xl, false)))) := by
    refine own_stay HO4.out fun k hk => ?_
    obtain ⟨_, cur, hc⟩ := own_lt HO4.out k hk
    have k1 : k ≠ T := fun e => by rw [e, HT4.out] at hc; injection hc with hc; injection hc with _ hc _; exact absurd hc (by decide)
    have k2 : k ≠ w.heap.size := fun e => by rw [e, HR4.out] at hc; injection hc with hc; injection hc with _ hc _; exact absurd hc (by decide)
    rw [put6_block _ _ _ _ _ _ _ _ _ k2, set_block _ _ _ _ k1]
   clear HT5 HO4 HC4 HR4 HR5 HTB HCL
   go_wp2_with fail
   (try simp only [Exit.inBlock, Exit.then])
   generalize hWq : (((((((w4.setCell ⟨T, 1, none⟩ (.slice p4 n4 c4)).setCell ⟨w.heap.size, 0, none⟩ (.int .i64 0)).setCell ⟨w.heap.size, 1, none⟩ (.int .i64 0)).setCell ⟨w.heap.size, 2, none⟩ (.int .i64 1)).setCell ⟨w.heap.size, 3, none⟩ (.string st)).setCell ⟨w.heap.size, 4, none⟩ (.int .i64 xl)).setCell ⟨w.heap.size, 5, none⟩ (.slice none 0 0)) = W at HW HC6 HT6 HO6 ⊢
   clear hWq z0 z1 z2 z3 z4 z5 y0 y1 y2 y3 y4 y5 t1 t2
   refine bodyPost_ret (v := .tuple #[.agg #[.int .i64 0, .int .i64 0, .int .i64 1, .string st, .int .i64 xl, .slice none 0 0], .nilIface]) ?_ rfl ?_
   ·simp [results]
    rw [show (asAddr (Value.pointer (some ⟨w.heap.size, 0, none⟩))).run Tryz.prog W = .ok ⟨w.heap.size, 0, none⟩ W from rfl]
    simp [If.load_op HW.out, Result.andThen]
   ·exact Or.inr ⟨HE.out, rfl, ⟨_, HT6.out, HO6.out⟩, HC6.out⟩
  ·clear h hin hlk hsz hx hbh hn
   have HE : Hid (E ≠ 0) := hE
   simp only [errV_ne hE] at CB
   clear hE
   obtain ⟨d0, d1, d2, d3⟩ := HCL.out _ HW1.out
   have hwr := HWR.out
   go_enter Tryz.func67, Tryz.ntmps67
   go_wp2_with fail
   go_region_held3 (fun W => W.cell? ⟨T, 1, none⟩ = some (.slice (some ⟨g, 0, none⟩) n c) ∧ W.cell? ⟨g, i * 3, none⟩ = some (.string xp) ∧ W.cell? ⟨T, 0, none⟩ = some (.int .i64 who)) (first | (go_keep; done) | (refine ⟨keep_cell hb7 ?_, keep_cell hb7 ?_, keep_cell hb7 ?_⟩ <;> (first | assumption | (go_split_ands; assumption)))) (first
    | (go_at_call 43; refine (CB _).mono ?_; rintro e w2 ⟨rfl, hb7⟩; have HB2 : Hid (Below w.heap.size w w2) := bel HW1.out.drew hb7; have HR2 : Hid (w2.heap[w.heap.size]? = some (.cells #[.int .i64 0, .int .i64 0, .int .i64 0, .string ⟨#[]⟩, .int .i64 0, .slice none 0 0] 33)) := (by rw [Hid, hb7.block _ (by simp)]; exact HR1.out)))
   clear hb7 CB d0 d1 d2 d3
   have z0 := blk_cell HR2.out (i := 0) (u := .int .i64 0) rfl
   have y0 := blk_free HR2.out (i := 0)
   have z1 := blk_cell HR2.out (i := 1) (u := .int .i64 0) rfl
   have y1 := blk_free HR2.out (i := 1)
   have z2 := blk_cell HR2.out (i := 2) (u := .int .i64 0) rfl
   have y2 := blk_free HR2.out (i := 2)
   have z3 := blk_cell HR2.out (i := 3) (u := .string ⟨#[]⟩) rfl
   have y3 := blk_free HR2.out (i := 3)
   have z4 := blk_cell HR2.out (i := 4) (u := .int .i64 0) rfl
   have y4 := blk_free HR2.out (i := 4)
   have z5 := blk_cell HR2.out (i := 5) (u := .slice none 0 0) rfl
   have y5 := blk_free HR2.out (i := 5)
   have HW : Hid (((((((w2.setCell ⟨w.heap.size, 0, none⟩ (.int .i64 0)).setCell ⟨w.heap.size, 1, none⟩ (.int .i64 0)).setCell ⟨w.heap.size, 2, none⟩ (.int .i64 0)).setCell ⟨w.heap.size, 3, none⟩ (.string ⟨#[]⟩)).setCell ⟨w.heap.size, 4, none⟩ (.int .i64 0)).setCell ⟨w.heap.size, 5, none⟩ (.slice none 0 0)).heap[w.heap.size]? = some (.cells #[.int .i64 0, .int .i64 0, .int .i64 0, .string ⟨#[]⟩, .int .i64 0, .slice none 0 0] 33)) := put6_heap HR2.out
   have HC3 : Hid (Chg (fun _ => False) w ((((((w2.setCell ⟨w.heap.size, 0, none⟩ (.int .i64 0)).setCell ⟨w.heap.size, 1, none⟩ (.int .i64 0)).setCell ⟨w.heap.size, 2, none⟩ (.int .i64 0)).setCell ⟨w.heap.size, 3, none⟩ (.string ⟨#[]⟩)).setCell ⟨w.heap.size, 4, none⟩ (.int .i64 0)).setCell ⟨w.heap.size, 5, none⟩ (.slice none 0 0))) := put6_chg (Chg.ofBelow HB2.out _) _ (Or.inr (Nat.le_refl _)) _ _ _ _ _ _
   go_wp2_with fail
   (try simp only [Exit.inBlock, Exit.then])
   generalize hWq : ((((((w2.setCell ⟨w.heap.size, 0, none⟩ (.int .i64 0)).setCell ⟨w.heap.size, 1, none⟩ (.int .i64 0)).setCell ⟨w.heap.size, 2, none⟩ (.int .i64 0)).setCell ⟨w.heap.size, 3, none⟩ (.string ⟨#[]⟩)).setCell ⟨w.heap.size, 4, none⟩ (.int .i64 0)).setCell ⟨w.heap.size, 5, none⟩ (.slice none 0 0)) = W at HW HC3 ⊢
   clear hWq z0 z1 z2 z3 z4 z5 y0 y1 y2 y3 y4 y5
   refine bodyPost_ret (v := .tuple #[opZ, .iface 76 (.int .i64 E)]) ?_ rfl ?_
   ·simp [results]
    rw [show (asAddr (Value.pointer (some ⟨w.heap.size, 0, none⟩))).run Tryz.prog W = .ok ⟨w.heap.size, 0, none⟩ W from rfl]
    simp [If.load_op HW.out, Result.andThen]
    rfl
   ·exact Or.inl ⟨HE.out, by rw [errV_ne HE.out], ⟨HC3.out.os, HC3.out.tape, HC3.out.output, HC3.out.size, fun k hk => HC3.out.block k hk (fun q => q)⟩⟩
end Bj
end Go.Proofs.YtnbnniapllkjlaaGreatDoor
