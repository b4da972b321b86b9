/- Docs in memory: what lies there, which blocks are a doc's own, and that it stays while other blocks are written. -/
import Derived.Test.YtgefpcchcegcpaaGreatDoorJ3
import Derived.Test.YtgefpcchcegcpaaGreatDoorJ6
import Derived.Test.YtgefpcchcegcpaaGreatDoorJ7
import Derived.Test.YtgefpcchcegcpaaGreatDoorJ9
namespace Go.Proofs.YtgefpcchcegcpaaGreatDoor
namespace Ia
set_option linter.unusedVariables false
open Go.ChangeShapes Go.WideShapes Go.ChangeAt Go.RowKit Cm Ka Kb Na Om Oa Oz Oc Og Oi Hm
open La (bel bel_drew errV_zero errV_ne own_ge own_grow own_below Lies)
open Lj (BookAt BookNew)

/- a slice lies in blocks of G, or it is empty; blocks of G are as they were -/
def In (G : Nat → Prop) (v : Value) : Prop := ∀ (a : Addr) (n c : Nat), v = .slice (some a) n c → 0 < n → G a.block
def Stay (G : Nat → Prop) (w w' : World) : Prop := ∀ g, G g → w'.heap[g]? = w.heap[g]?
theorem In.mono {G H : Nat → Prop} {v : Value} (h : In G v) (hs : ∀ g, G g → H g) : In H v := fun a n c e hn => hs _ (h a n c e hn)
theorem In.nil (G : Nat → Prop) : In G (.slice none 0 0) := fun a n c e _ => by cases e
/- w' is w but for blocks of F, and new ones -/
structure Chg (F : Nat → Prop) (w w' : World) : Prop where
  os : w'.os = w.os
  tape : w'.tape = w.tape
  output : w'.output = w.output
  size : w.heap.size ≤ w'.heap.size
  block : ∀ g, g < w.heap.size → ¬ F g → w'.heap[g]? = w.heap[g]?
theorem Chg.refl (F : Nat → Prop) (w : World) : Chg F w w := ⟨rfl, rfl, rfl, Nat.le_refl _, fun _ _ _ => rfl⟩
theorem Chg.trans {F : Nat → Prop} {a b c : World} (h : Chg F a b) (k : Chg F b c) : Chg F a c :=
  ⟨k.os.trans h.os, k.tape.trans h.tape, k.output.trans h.output, Nat.le_trans h.size k.size, fun g hg hf => (k.block g (Nat.lt_of_lt_of_le hg h.size) hf).trans (h.block g hg hf)⟩
/- .. where the second step's blocks are those of the first one's, or new -/
theorem Chg.next {F H : Nat → Prop} {a b c : World} (h : Chg F a b) (k : Chg H b c) (hH : ∀ g, H g → F g ∨ a.heap.size ≤ g) : Chg F a c :=
  ⟨k.os.trans h.os, k.tape.trans h.tape, k.output.trans h.output, Nat.le_trans h.size k.size, fun g hg hf => (k.block g (Nat.lt_of_lt_of_le hg h.size) (fun hh => by rcases hH g hh with e | e; exact hf e; omega)).trans (h.block g hg hf)⟩
theorem Chg.mono {F H : Nat → Prop} {a b : World} (h : Chg F a b) (hs : ∀ g, F g → H g) : Chg H a b := ⟨h.os, h.tape, h.output, h.size, fun g hg hf => h.block g hg (fun hh => hf (hs g hh))⟩
theorem Chg.ofBelow {w w' : World} (h : Below w.heap.size w w') (F : Nat → Prop) : Chg F w w' := ⟨h.os, h.tape, h.output, h.size, fun g hg _ => h.block g hg⟩
theorem Chg.below {F : Nat → Prop} {B : Nat} {w0 w w' : World} (h : Chg F w w') (hF : ∀ g, F g → B ≤ g) (hb : Below B w0 w) (hB : B ≤ w.heap.size) : Below B w0 w' :=
  hb.trans ⟨h.os, h.tape, h.output, h.size, fun g hg => h.block g (Nat.lt_of_lt_of_le hg hB) (fun e => by have := hF g e; omega)⟩
theorem Chg.stay {F G : Nat → Prop} {w w' : World} (h : Chg F w w') (hG : ∀ g, G g → g < w.heap.size ∧ ¬ F g) : Stay G w w' := fun g hg => h.block g (hG g hg).1 (hG g hg).2
theorem Chg.grown {F : Nat → Prop} {w w' : World} {r : Option Nat} (h : w.grownBy w' r) (hr : ∀ g, r = some g → F g) : Chg F w w' :=
  ⟨h.os, h.tape, h.output, h.size, fun g hg hf => h.block g hg (fun e => hf (hr g e.symm))⟩
theorem Chg.setCell {F : Nat → Prop} {w0 w : World} (h : Chg F w0 w) {p : Addr} (hp : F p.block) (v : Value) : Chg F w0 (w.setCell p v) :=
  ⟨h.os, h.tape, h.output, by rw [show (w.setCell p v).heap.size = w.heap.size by simp]; exact h.size, fun g hg hf => by rw [Oi.set_block w p v g (fun e => hf (e ▸ hp))]; exact h.block g hg hf⟩

theorem cell_stay {w w' : World} {b q : Nat} (h : w'.heap[b]? = w.heap[b]?) : w'.cell? ⟨b, q, none⟩ = w.cell? ⟨b, q, none⟩ := World.cell?_of_block (w := w) h
theorem book_stay {G : Nat → Prop} {w w' : World} {v : Value} {l : List Bm.Leaf} (h : BookAt w v l) (hi : In G v) (hs : Stay G w w') : BookAt w' v l := by
  obtain ⟨p, c, rfl, hl, h3⟩ := h
  refine ⟨p, c, rfl, ?_, h3⟩
  rcases hl with e | ⟨b, o, rfl, hc⟩
  · exact Or.inl e
  · by_cases e : l = []
    · exact Or.inl e
    · have hg := hs b (hi _ _ _ rfl (List.length_pos_iff.2 e))
      refine Or.inr ⟨b, o, rfl, fun j hj => ?_⟩
      obtain ⟨h1, h2, h3⟩ := hc j hj
      exact ⟨(cell_stay hg).trans h1, (cell_stay hg).trans h2, (cell_stay hg).trans h3⟩
theorem marks_stay {G : Nat → Prop} {w w' : World} {v : Value} {l : List Mk} (h : MksAt w v l) (hi : In G v) (hs : Stay G w w') : MksAt w' v l := by
  obtain ⟨p, c, rfl, hl, h3⟩ := h
  refine ⟨p, c, rfl, ?_, h3⟩
  rcases hl with e | ⟨b, o, rfl, hc⟩
  · exact Or.inl e
  · by_cases e : l = []
    · exact Or.inl e
    · have hg := hs b (hi _ _ _ rfl (List.length_pos_iff.2 e))
      refine Or.inr ⟨b, o, rfl, fun j hj => ?_⟩
      obtain ⟨h1, h2, h3⟩ := hc j hj
      exact ⟨(cell_stay hg).trans h1, (cell_stay hg).trans h2, (cell_stay hg).trans h3⟩
theorem dots_stay {G : Nat → Prop} {w w' : World} {v : Value} {l : List Dt} (h : DtsAt w v l) (hi : In G v) (hs : Stay G w w') : DtsAt w' v l := by
  obtain ⟨p, c, rfl, hl, h3⟩ := h
  refine ⟨p, c, rfl, ?_, h3⟩
  rcases hl with e | ⟨b, o, rfl, hc⟩
  · exact Or.inl e
  · by_cases e : l = []
    · exact Or.inl e
    · have hg := hs b (hi _ _ _ rfl (List.length_pos_iff.2 e))
      refine Or.inr ⟨b, o, rfl, fun j hj => ?_⟩
      obtain ⟨h1, h2⟩ := hc j hj
      exact ⟨(cell_stay hg).trans h1, (cell_stay hg).trans h2⟩
/- what is known: a row of ints -/
def KnAt (w : World) (v : Value) (l : List Int) : Prop := ∃ p c, v = .slice p l.length c ∧ Za.IntsIn w p l
theorem KnAt.below {w w' : World} {v : Value} {l : List Int} (h : KnAt w v l) (hb : Below w.heap.size w w') : KnAt w' v l := by
  obtain ⟨p, c, h1, h2⟩ := h
  exact ⟨p, c, h1, h2.below hb⟩
theorem known_stay {G : Nat → Prop} {w w' : World} {v : Value} {l : List Int} (h : KnAt w v l) (hi : In G v) (hs : Stay G w w') : KnAt w' v l := by
  obtain ⟨p, c, rfl, hl⟩ := h
  refine ⟨p, c, rfl, ?_⟩
  rcases hl with e | ⟨b, o, rfl, hc⟩
  · exact Or.inl e
  · by_cases e : l = []
    · exact Or.inl e
    · have hg := hs b (hi _ _ _ rfl (List.length_pos_iff.2 e))
      exact Or.inr ⟨b, o, rfl, fun j hj => (cell_stay hg).trans (hc j hj)⟩
/- a row of the call's own stays with its block -/
theorem own_stay {w w' : World} {base : Nat} {t : TypeId} {z : Nat} {v : Value} {n : Nat} {xs : List Value} (h : w.ownsRow base t z v n xs) (hs : ∀ g, v.ownBlock = some g → w'.heap[g]? = w.heap[g]?) : w'.ownsRow base t z v n xs := by
  refine ⟨h.1, ?_⟩
  rcases h.2 with h0 | ⟨g, cap, cur, h1, h2, h3, h4⟩
  · exact Or.inl h0
  · exact Or.inr ⟨g, cap, cur, h1, h2, by rw [hs g (by rw [h1]; rfl)]; exact h3, h4⟩
theorem own_lt {w : World} {base : Nat} {t : TypeId} {z : Nat} {v : Value} {n : Nat} {xs : List Value} (h : w.ownsRow base t z v n xs) : ∀ g, v.ownBlock = some g → g < w.heap.size ∧ ∃ cur, w.heap[g]? = some (.cells cur t (0, 0)) := by
  intro g hg
  refine ⟨(h.lt g hg).2, ?_⟩
  rcases h.2 with ⟨e, _⟩ | ⟨g', cap, cur, e, _, h3, _⟩
  · rw [e] at hg; cases hg
  · rw [e] at hg; injection hg with hg; rw [← hg]; exact ⟨cur, h3⟩
theorem own_base {w : World} {base : Nat} {t : TypeId} {z : Nat} {v : Value} {n : Nat} {xs : List Value} (h : w.ownsRow base t z v n xs) : w.ownsRow 0 t z v n xs := by
  refine ⟨h.1, ?_⟩
  rcases h.2 with h0 | ⟨g, cap, cur, h1, h2, h3⟩
  · exact Or.inl h0
  · exact Or.inr ⟨g, cap, cur, h1, Nat.zero_le _, h3⟩

/- the ops as they came: a row of the doc's own; what they saw lies in blocks of G -/
def OpsOwn (w : World) (G : Nat → Prop) (v : Value) (l : List Ox) : Prop := ∃ L : List (Ox × Value), L.map (·.1) = l ∧ w.ownsRow 0 34 6 v l.length (flatO L) ∧ ∀ y ∈ L, DtsAt w y.2 y.1.2.2.2.2 ∧ In G y.2
theorem ops_stay {G : Nat → Prop} {w w' : World} {v : Value} {l : List Ox} (h : OpsOwn w G v l) (hv : ∀ g, v.ownBlock = some g → w'.heap[g]? = w.heap[g]?) (hs : Stay G w w') : OpsOwn w' G v l := by
  obtain ⟨L, h1, h2, h3⟩ := h
  exact ⟨L, h1, own_stay h2 hv, fun y hy => ⟨dots_stay (h3 y hy).1 (h3 y hy).2 hs, (h3 y hy).2⟩⟩
theorem OpsOwn.at {G : Nat → Prop} {w : World} {v : Value} {l : List Ox} (h : OpsOwn w G v l) : OpsAt w v l := by
  obtain ⟨L, h1, h2, h3⟩ := h
  rw [← h1]
  rw [← h1, List.length_map] at h2
  exact own_ops h2 (fun y hy => (h3 y hy).1)

/- what joins saw that is still to come: dots, and the places at which they were seen -/
abbrev Ent := Dt × Value × List ByteArray
abbrev pr (e : MapEntry) : Value × Value := (e.key, e.val)
abbrev pm (x : Ent) : Value × Value := (aggD x.1, x.2.1)
/- its entries' stamps are apart, and below its clock -/
def Born (es : List MapEntry) (clock : Nat) : Prop := (∀ e ∈ es, e.born < clock) ∧ (es.map (·.born)).Nodup
def MapAt (w : World) (B : Nat) (M : List Ent) : Prop := ∃ es clock, w.heap[B]? = some (.map es clock) ∧ es.toList.map pr = M.map pm ∧ Born es.toList clock
def RowS (w : World) (v : Value) (l : List ByteArray) : Prop := w.ownsRow 0 9 1 v l.length (l.map Value.string)
def getV (M : List Ent) (d : Dt) : Value := match M.find? (fun x => decide (x.1 = d)) with | some x => x.2.1 | none => .slice none 0 0
def getJ (M : List Ent) (d : Dt) : List ByteArray := match M.find? (fun x => decide (x.1 = d)) with | some x => x.2.2 | none => []

/- where the parts of a doc lie -/
structure Mem where
  D : Nat
  vb : Value
  vm : Value
  vk : Value
  vo : Value
  B : Nat
  M : List Ent
/- the blocks that are written again -/
def Wr (m : Mem) (g : Nat) : Prop := g = m.D ∨ g = m.B ∨ m.vo.ownBlock = some g ∨ ∃ x ∈ m.M, x.2.1.ownBlock = some g
structure DocMem (w : World) (m : Mem) (S : Dq) (G : Nat → Prop) : Prop where
  blk : w.heap[m.D]? = some (.cells #[m.vb, m.vm, m.vk, m.vo, .map (some m.B)] 74)
  book : BookAt w m.vb S.book
  bookG : In G m.vb
  marks : MksAt w m.vm S.marks
  marksG : In G m.vm
  known : KnAt w m.vk S.known
  knownG : In G m.vk
  ops : OpsOwn w G m.vo S.ops
  map : MapAt w m.B m.M
  rows : ∀ x ∈ m.M, RowS w x.2.1 x.2.2
  apart : m.M.Pairwise fun x y => ∀ g, x.2.1.ownBlock = some g → y.2.1.ownBlock ≠ some g
  lt : ∀ g, G g → g < w.heap.size
  off : ∀ g, G g → ¬ Wr m g
theorem DocMem.wr_lt {w : World} {m : Mem} {S : Dq} {G : Nat → Prop} (h : DocMem w m S G) : ∀ g, Wr m g → g < w.heap.size := by
  rintro g (rfl | rfl | hg | ⟨x, hx, hg⟩)
  · exact (Array.getElem?_eq_some_iff.1 h.blk).1
  · obtain ⟨es, clock, hb, _⟩ := h.map; exact (Array.getElem?_eq_some_iff.1 hb).1
  · obtain ⟨L, _, h2, _⟩ := h.ops; exact (own_lt h2 g hg).1
  · exact (own_lt (h.rows x hx) g hg).1
theorem DocMem.stay {w w' : World} {m : Mem} {S : Dq} {G : Nat → Prop} (h : DocMem w m S G) (hs : Stay (fun g => G g ∨ Wr m g) w w') (hz : w.heap.size ≤ w'.heap.size) : DocMem w' m S G := by
  have hG : Stay G w w' := fun g hg => hs g (Or.inl hg)
  refine ⟨by rw [hs _ (Or.inr (Or.inl rfl))]; exact h.blk, book_stay h.book h.bookG hG, h.bookG, marks_stay h.marks h.marksG hG, h.marksG, known_stay h.known h.knownG hG, h.knownG, ops_stay h.ops (fun g hg => hs g (Or.inr (Or.inr (Or.inr (Or.inl hg))))) hG, ?_, fun x hx => own_stay (h.rows x hx) (fun g hg => hs g (Or.inr (Or.inr (Or.inr (Or.inr ⟨x, hx, hg⟩))))), h.apart, fun g hg => Nat.lt_of_lt_of_le (h.lt g hg) hz, h.off⟩
  obtain ⟨es, clock, hb, he⟩ := h.map
  exact ⟨es, clock, by rw [hs _ (Or.inr (Or.inr (Or.inl rfl)))]; exact hb, he⟩
theorem DocMem.below {w w' : World} {m : Mem} {S : Dq} {G : Nat → Prop} (h : DocMem w m S G) (hb : Below w.heap.size w w') : DocMem w' m S G :=
  h.stay (fun g hg => hb.block g (by rcases hg with e | e; exact h.lt g e; exact h.wr_lt g e)) hb.size
/- more blocks may be the doc's -/
theorem DocMem.more {w : World} {m : Mem} {S : Dq} {G H : Nat → Prop} (h : DocMem w m S G) (hG : ∀ g, G g → H g) (hl : ∀ g, H g → g < w.heap.size) (ho : ∀ g, H g → ¬ Wr m g) : DocMem w m S H := by
  obtain ⟨L, o1, o2, o3⟩ := h.ops
  exact ⟨h.blk, h.book, h.bookG.mono hG, h.marks, h.marksG.mono hG, h.known, h.knownG.mono hG, ⟨L, o1, o2, fun y hy => ⟨(o3 y hy).1, (o3 y hy).2.mono hG⟩⟩, h.map, h.rows, h.apart, hl, ho⟩

/- what the places that are kept mean -/
def Jn (M : List Ent) (S : Dq) : Prop := ∀ (d : Dt) (p : ByteArray), dotE d.1 d.2 = 0 → kn S d.1 < d.2 → (p ∈ getJ M d ↔ saw S.ops p d = true)
structure DocOk (w : World) (m : Mem) (S : Dq) (G : Nat → Prop) : Prop where
  mem : DocMem w m S G
  inv : Inv S
  jn : Jn m.M S
  short : ∀ x ∈ m.M, x.2.2.length ≤ 40 * S.ops.length
/- a doc at block D: its state, and all blocks that are its own -/
def DocAt (w : World) (D : Nat) (S : Dq) (F : Nat → Prop) : Prop := ∃ m G, m.D = D ∧ DocOk w m S G ∧ ∀ g, F g ↔ (G g ∨ Wr m g)
theorem DocAt.lt {w : World} {D : Nat} {S : Dq} {F : Nat → Prop} (h : DocAt w D S F) : ∀ g, F g → g < w.heap.size := by
  obtain ⟨m, G, rfl, ok, hF⟩ := h
  intro g hg
  rcases (hF g).1 hg with e | e
  · exact ok.mem.lt g e
  · exact ok.mem.wr_lt g e
theorem DocAt.stay {w w' : World} {D : Nat} {S : Dq} {F : Nat → Prop} (h : DocAt w D S F) (hs : Stay F w w') (hz : w.heap.size ≤ w'.heap.size) : DocAt w' D S F := by
  obtain ⟨m, G, rfl, ok, hF⟩ := h
  exact ⟨m, G, rfl, ⟨ok.mem.stay (fun g hg => hs g ((hF g).2 hg)) hz, ok.inv, ok.jn, ok.short⟩, hF⟩
theorem DocAt.below {w w' : World} {D : Nat} {S : Dq} {F : Nat → Prop} (h : DocAt w D S F) (hb : Below w.heap.size w w') : DocAt w' D S F :=
  h.stay (fun g hg => hb.block g (h.lt g hg)) hb.size
theorem DocAt.chg {w w' : World} {D : Nat} {S : Dq} {F H : Nat → Prop} (h : DocAt w D S F) (hc : Chg H w w') (hd : ∀ g, F g → ¬ H g) : DocAt w' D S F :=
  h.stay (hc.stay fun g hg => ⟨h.lt g hg, hd g hg⟩) hc.size
theorem DocAt.inv {w : World} {D : Nat} {S : Dq} {F : Nat → Prop} (h : DocAt w D S F) : Inv S := by
  obtain ⟨m, G, _, ok, _⟩ := h; exact ok.inv

end Ia
end Go.Proofs.YtgefpcchcegcpaaGreatDoor
