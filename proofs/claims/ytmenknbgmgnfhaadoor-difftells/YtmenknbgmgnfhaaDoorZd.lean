/- Memory, at a seat of few packages: what stays while other blocks are written; rows of edits and of texts. (Drawn from Ef.) -/
import Derived.Test.YtmenknbgmgnfhaaDoorKb
import Derived.Test.YtmenknbgmgnfhaaDoorZc
import Derived.Maps.AppendAt
import Derived.OwnWalk
import Derived.Deep.QuietTactic
import Derived.BigQuiet
namespace Go.Proofs.YtmenknbgmgnfhaaDoor
namespace Zd
set_option linter.unusedVariables false
open Go.ChangeShapes Go.WideShapes Go.ChangeAt Go.RowKit Ka Kb Zc

theorem bel {w w1 w2 : World} (h1 : Below w.heap.size w w1) (h2 : Below w1.heap.size w1 w2) : Below w.heap.size w w2 :=
  h1.trans (h2.mono h1.size)
theorem bel_drew {B : Nat} {a w : World} (h : Below B a w) (q : Nat) : Below B a (w.drewN q) := ⟨h.os, h.tape, h.output, h.size, h.block⟩
theorem own_ge {w : World} {base : Nat} {t : TypeId} {z : Nat} {v : Value} {n : Nat} {xs : List Value} (h : w.ownsRow base t z v n xs) : ∀ k, v.ownBlock = some k → base ≤ k := fun k hk => (h.lt k hk).1
theorem own_grow {w wr w1 w2 : World} {base : Nat} {t : TypeId} {z : Nat} {v : Value} {n : Nat} {xs : List Value} (h : wr.ownsRow base t z v n xs) (hb : Below base w w1) (hg : w1.grownBy w2 v.ownBlock) (hB : base ≤ w1.heap.size) : Below base w w2 :=
  hb.grown hg hB (fun k hk => own_ge h k hk)
theorem own_below {w w2 : World} {base : Nat} {t : TypeId} {z : Nat} {v : Value} {n : Nat} {xs : List Value} (h : w.ownsRow base t z v n xs) (hb : Below w.heap.size w w2) : w2.ownsRow base t z v n xs := by
  refine ⟨h.1, ?_⟩
  rcases h.2 with h0 | ⟨g, cap, cur, h1, h2, h3, h4⟩
  · exact Or.inl h0
  · refine Or.inr ⟨g, cap, cur, h1, h2, ?_, h4⟩
    have hg : g < w.heap.size := by
      rcases Nat.lt_or_ge g w.heap.size with e | e
      · exact e
      · rw [Array.getElem?_eq_none e] at h3; cases h3
    rw [hb.block g hg]; exact h3
theorem errV_zero : errV 0 = .nilIface := rfl
theorem errV_ne {n : Int} (h : n ≠ 0) : errV n = .iface 36 (.int .i64 n) := by unfold errV; rw [if_neg h]
theorem keep_cell {W W' : World} {p : Addr} {v : Value} (hb : Below W.heap.size W W') (h : W.cell? p = some v) : W'.cell? p = some v := (hb.cell (World.block_lt_of_cell? _ _ h)).trans h
theorem set_block (w : World) (p : Addr) (v : Value) (k : Nat) (h : k ≠ p.block) : (w.setCell p v).heap[k]? = w.heap[k]? := Below.heap_setCell _ _ _ _ h
theorem own_shape {w : World} {base : Nat} {t : TypeId} {z : Nat} {v : Value} {n : Nat} {xs : List Value} (h : w.ownsRow base t z v n xs) : ∃ p N c, v = .slice p N c ∧ Hid (N = n) := by
  rcases h.2 with ⟨e, e0⟩ | ⟨g, cap, cur, h1, _⟩
  · exact ⟨none, 0, 0, e, e0.symm⟩
  · exact ⟨_, _, _, h1, rfl⟩
theorem own_same {w w' : World} {base : Nat} {t : TypeId} {z : Nat} {v : Value} {n : Nat} {xs : List Value} (h : w.ownsRow base t z v n xs) (hs : ∀ k, base ≤ k → k < w.heap.size → w'.heap[k]? = w.heap[k]?) : w'.ownsRow base t z v n xs := by
  refine ⟨h.1, ?_⟩
  rcases h.2 with h0 | ⟨g, cap, cur, h1, h2, h3, h4⟩
  · exact Or.inl h0
  · refine Or.inr ⟨g, cap, cur, h1, h2, ?_, h4⟩
    have hg : g < w.heap.size := by
      rcases Nat.lt_or_ge g w.heap.size with e | e
      · exact e
      · rw [Array.getElem?_eq_none e] at h3; cases h3
    rw [hs g h2 hg]; exact h3
def In (G : Nat → Prop) (v : Value) : Prop := ∀ (a : Addr) (n c : Nat), v = .slice (some a) n c → 0 < n → G a.block
def Stay (G : Nat → Prop) (w w' : World) : Prop := ∀ g, G g → w'.heap[g]? = w.heap[g]?
theorem In.mono {G H : Nat → Prop} {v : Value} (h : In G v) (hs : ∀ g, G g → H g) : In H v := fun a n c e hn => hs _ (h a n c e hn)
theorem In.nil (G : Nat → Prop) : In G (.slice none 0 0) := fun a n c e _ => by cases e
structure Chg (F : Nat → Prop) (w w' : World) : Prop where
  os : w'.os = w.os
  tape : w'.tape = w.tape
  output : w'.output = w.output
  size : w.heap.size ≤ w'.heap.size
  block : ∀ g, g < w.heap.size → ¬ F g → w'.heap[g]? = w.heap[g]?
theorem Chg.refl (F : Nat → Prop) (w : World) : Chg F w w := ⟨rfl, rfl, rfl, Nat.le_refl _, fun _ _ _ => rfl⟩
theorem Chg.trans {F : Nat → Prop} {a b c : World} (h : Chg F a b) (k : Chg F b c) : Chg F a c :=
  ⟨k.os.trans h.os, k.tape.trans h.tape, k.output.trans h.output, Nat.le_trans h.size k.size, fun g hg hf => (k.block g (Nat.lt_of_lt_of_le hg h.size) hf).trans (h.block g hg hf)⟩
theorem Chg.next {F H : Nat → Prop} {a b c : World} (h : Chg F a b) (k : Chg H b c) (hH : ∀ g, H g → F g ∨ a.heap.size ≤ g) : Chg F a c :=
  ⟨k.os.trans h.os, k.tape.trans h.tape, k.output.trans h.output, Nat.le_trans h.size k.size, fun g hg hf => (k.block g (Nat.lt_of_lt_of_le hg h.size) (fun hh => by rcases hH g hh with e | e; exact hf e; omega)).trans (h.block g hg hf)⟩
theorem Chg.mono {F H : Nat → Prop} {a b : World} (h : Chg F a b) (hs : ∀ g, F g → H g) : Chg H a b := ⟨h.os, h.tape, h.output, h.size, fun g hg hf => h.block g hg (fun hh => hf (hs g hh))⟩
theorem Chg.ofBelow {w w' : World} (h : Below w.heap.size w w') (F : Nat → Prop) : Chg F w w' := ⟨h.os, h.tape, h.output, h.size, fun g hg _ => h.block g hg⟩
theorem Chg.below {F : Nat → Prop} {B : Nat} {w0 w w' : World} (h : Chg F w w') (hF : ∀ g, F g → B ≤ g) (hb : Below B w0 w) (hB : B ≤ w.heap.size) : Below B w0 w' :=
  hb.trans ⟨h.os, h.tape, h.output, h.size, fun g hg => h.block g (Nat.lt_of_lt_of_le hg hB) (fun e => by have := hF g e; omega)⟩
theorem Chg.stay {F G : Nat → Prop} {w w' : World} (h : Chg F w w') (hG : ∀ g, G g → g < w.heap.size ∧ ¬ F g) : Stay G w w' := fun g hg => h.block g (hG g hg).1 (hG g hg).2
theorem Chg.grown {F : Nat → Prop} {w w' : World} {r : Option Nat} (h : w.grownBy w' r) (hr : ∀ g, r = some g → F g) : Chg F w w' :=
  ⟨h.os, h.tape, h.output, h.size, fun g hg hf => h.block g hg (fun e => hf (hr g e.symm))⟩
theorem Chg.setCell {F : Nat → Prop} {w0 w : World} (h : Chg F w0 w) {p : Addr} (hp : F p.block) (v : Value) : Chg F w0 (w.setCell p v) :=
  ⟨h.os, h.tape, h.output, by rw [show (w.setCell p v).heap.size = w.heap.size by simp]; exact h.size, fun g hg hf => by rw [set_block w p v g (fun e => hf (e ▸ hp))]; exact h.block g hg hf⟩
theorem cell_stay {w w' : World} {b q : Nat} (h : w'.heap[b]? = w.heap[b]?) : w'.cell? ⟨b, q, none⟩ = w.cell? ⟨b, q, none⟩ := World.cell?_of_block (w := w) h
theorem own_stay {w w' : World} {base : Nat} {t : TypeId} {z : Nat} {v : Value} {n : Nat} {xs : List Value} (h : w.ownsRow base t z v n xs) (hs : ∀ g, v.ownBlock = some g → w'.heap[g]? = w.heap[g]?) : w'.ownsRow base t z v n xs := by
  refine ⟨h.1, ?_⟩
  rcases h.2 with h0 | ⟨g, cap, cur, h1, h2, h3, h4⟩
  · exact Or.inl h0
  · exact Or.inr ⟨g, cap, cur, h1, h2, by rw [hs g (by rw [h1]; rfl)]; exact h3, h4⟩
theorem own_lt {w : World} {base : Nat} {t : TypeId} {z : Nat} {v : Value} {n : Nat} {xs : List Value} (h : w.ownsRow base t z v n xs) : ∀ g, v.ownBlock = some g → g < w.heap.size ∧ ∃ cur, w.heap[g]? = some (.cells cur t (0, 0)) := by
  intro g hg
  refine ⟨(h.lt g hg).2, ?_⟩
  rcases h.2 with ⟨e, _⟩ | ⟨g', cap, cur, e, _, h3, _⟩
  · rw [e] at hg; cases hg
  · rw [e] at hg; injection hg with hg; rw [← hg]; exact ⟨cur, h3⟩
theorem own_base {w : World} {base : Nat} {t : TypeId} {z : Nat} {v : Value} {n : Nat} {xs : List Value} (h : w.ownsRow base t z v n xs) : w.ownsRow 0 t z v n xs := by
  refine ⟨h.1, ?_⟩
  rcases h.2 with h0 | ⟨g, cap, cur, h1, h2, h3⟩
  · exact Or.inl h0
  · exact Or.inr ⟨g, cap, cur, h1, Nat.zero_le _, h3⟩
theorem set_heap {w : World} {g i : Nat} {v : Value} {cs : Array Value} {t : TypeId} {f : Nat × Nat} (h : w.heap[g]? = some (.cells cs t f)) : (w.setCell ⟨g, i, none⟩ v).heap[g]? = some (.cells (cs.setIfInBounds i v) t f) := by
  simp [World.setCell, Array.getElem?_modify, h]
theorem set_size (w : World) (p : Addr) (v : Value) : (w.setCell p v).heap.size = w.heap.size := by simp [World.setCell]
theorem blk_cell {w : World} {D : Nat} {cs : Array Value} {t : TypeId} (h : w.heap[D]? = some (.cells cs t)) {i : Nat} {u : Value} (hu : cs[i]? = some u) : w.cell? ⟨D, i, none⟩ = some u := by
  simp only [World.cell?, h]; simpa using hu
theorem blk_free {w : World} {D : Nat} {cs : Array Value} {t : TypeId} (h : w.heap[D]? = some (.cells cs t)) {i : Nat} : w.frozen? ⟨D, i, none⟩ = false := by
  simp [World.frozen?, h]

def e0 : ByteArray := ⟨#[]⟩
/- an edit as it lies -/
abbrev Fr := Int × Int × ByteArray
/- blocks that are new -/
def New (B : Nat) (w : World) (g : Nat) : Prop := B ≤ g ∧ g < w.heap.size
/- edits -/
def fz : Fr := (0, 0, e0)
def aggF (x : Fr) : Value := .agg #[.int .i64 x.1, .int .i64 x.2.1, .string x.2.2]
def cells3 (x : Fr) : List Value := [.int .i64 x.1, .int .i64 x.2.1, .string x.2.2]
def flatF (l : List Fr) : List Value := l.flatMap cells3
theorem flatF_append (a b : List Fr) : flatF (a ++ b) = flatF a ++ flatF b := by unfold flatF; rw [List.flatMap_append]
theorem flatF_length : ∀ l : List Fr, (flatF l).length = l.length * 3
  | [] => rfl
  | x :: l => by
    have e : flatF (x :: l) = cells3 x ++ flatF l := rfl
    rw [e, List.length_append, flatF_length l, List.length_cons]
    show 3 + l.length * 3 = _
    omega
theorem flatF_at : ∀ (l : List Fr) (j : Nat), j < l.length → ∀ i u, (cells3 (l.getD j fz))[i]? = some u → (flatF l)[j * 3 + i]? = some u
  | x :: l, 0, _, i, u, hu => by
    have e : flatF (x :: l) = cells3 x ++ flatF l := rfl
    have hi : i < (cells3 x).length := (List.getElem?_eq_some_iff.1 hu).1
    rw [e, Nat.zero_mul, Nat.zero_add, List.getElem?_append_left hi]; exact hu
  | x :: l, j + 1, hj, i, u, hu => by
    have e : flatF (x :: l) = cells3 x ++ flatF l := rfl
    have h3 : (cells3 x).length = 3 := rfl
    rw [e, List.getElem?_append_right (by rw [h3]; omega), h3, show (j + 1) * 3 + i - 3 = j * 3 + i by omega]
    exact flatF_at l j (by simpa using hj) i u hu
def FAt (w : World) (b o j : Nat) (x : Fr) : Prop := w.cell? ⟨b, o + j * 3, none⟩ = some (.int .i64 x.1) ∧ w.cell? ⟨b, o + j * 3 + 1, none⟩ = some (.int .i64 x.2.1) ∧ w.cell? ⟨b, o + j * 3 + 2, none⟩ = some (.string x.2.2)
def FrsK (R : Nat → Prop) (w : World) (p : Option Addr) (l : List Fr) : Prop := l = [] ∨ ∃ b o, p = some ⟨b, o, none⟩ ∧ R b ∧ ∀ j, j < l.length → FAt w b o j (l.getD j fz)
/- edits whose row lies in blocks of R -/
def FrsJ (R : Nat → Prop) (w : World) (v : Value) (l : List Fr) : Prop := ∃ p c, v = .slice p l.length c ∧ FrsK R w p l ∧ l.length ≤ c ∧ c ≤ maxLen ∧ (p = none → c = 0)
theorem FrsK.some {R : Nat → Prop} {w : World} {p : Option Addr} {l : List Fr} (h : FrsK R w p l) (hl : l ≠ []) : ∃ b o, p = some ⟨b, o, none⟩ ∧ R b ∧ ∀ j, j < l.length → FAt w b o j (l.getD j fz) := by
  rcases h with h | h
  · exact absurd h hl
  · exact h
theorem FAt.stay {w w' : World} {b o j : Nat} {x : Fr} (h : FAt w b o j x) (hs : w'.heap[b]? = w.heap[b]?) : FAt w' b o j x := ⟨(cell_stay hs).trans h.1, (cell_stay hs).trans h.2.1, (cell_stay hs).trans h.2.2⟩
theorem FrsK.stay {R : Nat → Prop} {w w' : World} {p : Option Addr} {l : List Fr} (h : FrsK R w p l) (hs : Stay R w w') : FrsK R w' p l := by
  rcases h with e | ⟨b, o, hp, hR, hc⟩
  · exact Or.inl e
  · exact Or.inr ⟨b, o, hp, hR, fun j hj => (hc j hj).stay (hs b hR)⟩
theorem FrsJ.stay {R : Nat → Prop} {w w' : World} {v : Value} {l : List Fr} (h : FrsJ R w v l) (hs : Stay R w w') : FrsJ R w' v l := by
  obtain ⟨p, c, h1, h2, h3⟩ := h
  exact ⟨p, c, h1, h2.stay hs, h3⟩
theorem FrsJ.below {R : Nat → Prop} {w w' : World} {v : Value} {l : List Fr} (h : FrsJ R w v l) (hb : Below w.heap.size w w') : FrsJ R w' v l := by
  obtain ⟨p, c, h1, h2, h3⟩ := h
  refine ⟨p, c, h1, ?_, h3⟩
  rcases h2 with e | ⟨b, o, hp, hR, hc⟩
  · exact Or.inl e
  · exact Or.inr ⟨b, o, hp, hR, fun j hj => ⟨keep_cell hb (hc j hj).1, keep_cell hb (hc j hj).2.1, keep_cell hb (hc j hj).2.2⟩⟩
theorem FrsJ.mono {R R' : Nat → Prop} {w : World} {v : Value} {l : List Fr} (h : FrsJ R w v l) (hr : ∀ g, R g → R' g) : FrsJ R' w v l := by
  obtain ⟨p, c, h1, h2, h3⟩ := h
  refine ⟨p, c, h1, ?_, h3⟩
  rcases h2 with e | ⟨b, o, hp, hR, hc⟩
  · exact Or.inl e
  · exact Or.inr ⟨b, o, hp, hr b hR, hc⟩
theorem FrsJ.nil (R : Nat → Prop) (w : World) : FrsJ R w (.slice none 0 0) [] := ⟨none, 0, rfl, Or.inl rfl, Nat.le_refl _, by unfold maxLen; omega, fun _ => rfl⟩
/- a row of edits of the call's own -/
def RowF (B : Nat) (w : World) (v : Value) (l : List Fr) : Prop := w.ownsRow B 43 3 v l.length (flatF l)
theorem FrsJ.own {B : Nat} {w : World} {v : Value} {l : List Fr} (h : RowF B w v l) : FrsJ (fun g => v.ownBlock = some g) w v l := by
  rcases h.2 with ⟨e, e0⟩ | ⟨g, cap, cur, e, hg, hc, h1, h2, h3, h4⟩
  · have : l = [] := List.eq_nil_of_length_eq_zero e0
    subst this e
    exact FrsJ.nil _ _
  · subst e
    refine ⟨some ⟨g, 0, none⟩, cap, rfl, Or.inr ⟨g, 0, rfl, rfl, fun j hj => ?_⟩, h1, h2, fun e => by cases e⟩
    have key : ∀ i u, (cells3 (l.getD j fz))[i]? = some u → w.cell? ⟨g, 0 + j * 3 + i, none⟩ = some u := by
      intro i u hu
      have h9 := h.cells (g := g) rfl (j * 3 + i) u (flatF_at l j hj i u hu)
      rw [Addr.add_lit] at h9
      rw [show 0 + j * 3 + i = 0 + (j * 3 + i) by omega]; exact h9
    exact ⟨key 0 _ rfl, key 1 _ rfl, key 2 _ rfl⟩
theorem frame_new (w : World) (x : Fr) (t : TypeId) : ∀ j y, (flatF [x])[j]? = some y → (w.alloc (.cells #[.int .i64 x.1, .int .i64 x.2.1, .string x.2.2] t)).cell? ((⟨w.heap.size, 0, none⟩ : Addr).add j) = some y := by
  intro j y hu
  have h2 := heap_alloc_new w (.cells #[.int .i64 x.1, .int .i64 x.2.1, .string x.2.2] t)
  have e : flatF [x] = [.int .i64 x.1, .int .i64 x.2.1, .string x.2.2] := rfl
  rw [e] at hu
  rw [Addr.add_lit, Nat.zero_add]
  simp only [World.cell?, h2]
  simpa using hu
theorem edits_one (l : List Fr) : ∀ u ∈ flatF l, u.oneCell' = true := by
  intro u hu
  unfold flatF at hu
  obtain ⟨y, hy, hu⟩ := List.mem_flatMap.1 hu
  simp only [cells3, List.mem_cons, List.not_mem_nil, or_false] at hu
  rcases hu with rfl | rfl | rfl <;> rfl
theorem own_appF {w : World} {B : Nat} {v : Value} {a b : List Fr} {n m : Nat} (hn : a.length = n) (hm : b.length = m) (h : w.ownsRow B 43 3 v (n + m) (flatF a ++ flatF b)) : RowF B w v (a ++ b) := by
  unfold RowF; rw [List.length_append, flatF_append, hn, hm]; exact h
theorem infoF : (Tryd.prog.info? 43).map (fun i => (i.zero, i.size, i.bytes)) = some (some (.agg #[.int .i64 0, .int .i64 0, .string ⟨#[]⟩]), 3, 32) := by kernel_rfl

/- texts -/
def TxK (R : Nat → Prop) (w : World) (p : Option Addr) (l : List ByteArray) : Prop := l = [] ∨ ∃ b o, p = some ⟨b, o, none⟩ ∧ R b ∧ ∀ j, j < l.length → w.cell? ⟨b, o + j, none⟩ = some (.string (l.getD j e0))
def TxJ (R : Nat → Prop) (w : World) (v : Value) (l : List ByteArray) : Prop := ∃ p c, v = .slice p l.length c ∧ TxK R w p l ∧ l.length ≤ c ∧ c ≤ maxLen ∧ (p = none → c = 0)
theorem TxK.some {R : Nat → Prop} {w : World} {p : Option Addr} {l : List ByteArray} (h : TxK R w p l) (hl : l ≠ []) : ∃ b o, p = some ⟨b, o, none⟩ ∧ R b ∧ ∀ j, j < l.length → w.cell? ⟨b, o + j, none⟩ = some (.string (l.getD j e0)) := by
  rcases h with h | h
  · exact absurd h hl
  · exact h
theorem TxK.stay {R : Nat → Prop} {w w' : World} {p : Option Addr} {l : List ByteArray} (h : TxK R w p l) (hs : Stay R w w') : TxK R w' p l := by
  rcases h with e | ⟨b, o, hp, hR, hc⟩
  · exact Or.inl e
  · exact Or.inr ⟨b, o, hp, hR, fun j hj => (cell_stay (hs b hR)).trans (hc j hj)⟩
theorem TxJ.stay {R : Nat → Prop} {w w' : World} {v : Value} {l : List ByteArray} (h : TxJ R w v l) (hs : Stay R w w') : TxJ R w' v l := by
  obtain ⟨p, c, h1, h2, h3⟩ := h
  exact ⟨p, c, h1, h2.stay hs, h3⟩
theorem TxJ.below {R : Nat → Prop} {w w' : World} {v : Value} {l : List ByteArray} (h : TxJ R w v l) (hb : Below w.heap.size w w') : TxJ R w' v l := by
  obtain ⟨p, c, h1, h2, h3⟩ := h
  refine ⟨p, c, h1, ?_, h3⟩
  rcases h2 with e | ⟨b, o, hp, hR, hc⟩
  · exact Or.inl e
  · exact Or.inr ⟨b, o, hp, hR, fun j hj => keep_cell hb (hc j hj)⟩
theorem TxJ.mono {R R' : Nat → Prop} {w : World} {v : Value} {l : List ByteArray} (h : TxJ R w v l) (hr : ∀ g, R g → R' g) : TxJ R' w v l := by
  obtain ⟨p, c, h1, h2, h3⟩ := h
  refine ⟨p, c, h1, ?_, h3⟩
  rcases h2 with e | ⟨b, o, hp, hR, hc⟩
  · exact Or.inl e
  · exact Or.inr ⟨b, o, hp, hr b hR, hc⟩
theorem TxJ.nil (R : Nat → Prop) (w : World) : TxJ R w (.slice none 0 0) [] := ⟨none, 0, rfl, Or.inl rfl, Nat.le_refl _, by unfold maxLen; omega, fun _ => rfl⟩
def RowT (B : Nat) (w : World) (v : Value) (l : List ByteArray) : Prop := w.ownsRow B 9 1 v l.length (l.map Value.string)
theorem TxJ.own {B : Nat} {w : World} {v : Value} {l : List ByteArray} (h : RowT B w v l) : TxJ (fun g => v.ownBlock = some g) w v l := by
  rcases h.2 with ⟨e, e0⟩ | ⟨g, cap, cur, e, hg, hc, h1, h2, h3, h4⟩
  · have : l = [] := List.eq_nil_of_length_eq_zero e0
    subst this e
    exact TxJ.nil _ _
  · subst e
    refine ⟨some ⟨g, 0, none⟩, cap, rfl, Or.inr ⟨g, 0, rfl, rfl, fun j hj => ?_⟩, h1, h2, fun e => by cases e⟩
    have h9 := h.cells (g := g) rfl j (.string (l.getD j e0)) (by rw [List.getElem?_map, List.getElem?_eq_getElem hj, List.getD_eq_getElem?_getD, List.getElem?_eq_getElem hj]; rfl)
    rw [Addr.add_lit] at h9
    exact h9
theorem own_appT {w : World} {B : Nat} {v : Value} {a b : List ByteArray} {n m : Nat} (hn : a.length = n) (hm : b.length = m) (h : w.ownsRow B 9 1 v (n + m) (a.map Value.string ++ b.map Value.string)) : RowT B w v (a ++ b) := by
  unfold RowT; rw [List.length_append, List.map_append, hn, hm]; exact h
theorem infoS : (Tryd.prog.info? 9).map (fun i => (i.zero, i.size, i.bytes)) = some (some (.string ByteArray.empty), 1, 16) := by kernel_rfl
theorem bytes_inj {a b : ByteArray} (h : a.toList = b.toList) : a = b := by
  rw [ByteArray.toList_eq, ByteArray.toList_eq] at h
  cases a; cases b; simp only [ByteArray.mk.injEq]; exact Array.toList_inj.1 h

end Zd
end Go.Proofs.YtmenknbgmgnfhaaDoor
