/- Rows of bytes of the call's own: a byte more, a text more, read as a text. -/
import Derived.Test.YtcmoajlcmeimiaaDoorOz
import Derived.Laws.IdiomStrings
import Derived.OwnWalk
import Derived.Maps.AppendAt
namespace Go.Proofs.YtcmoajlcmeimiaaDoor
namespace Oc
set_option linter.unusedVariables false
open Go.ChangeShapes Go.WideShapes Go.ChangeAt Go.RowKit Cm Ka Kb Na Om Oa Oz
open La (bel bel_drew errV_zero errV_ne own_ge own_grow own_below)

theorem info5 : (Tryd.prog.info? 5).map (fun i => (i.zero, i.size, i.bytes)) = some (some (.int .u8 0), 1, 1) := by kernel_rfl
def bc (l : List UInt8) : List Value := l.map fun x => Value.int .u8 (x.toNat : Int)
theorem bc_length (l : List UInt8) : (bc l).length = l.length := by simp [bc]
theorem bc_append (a b : List UInt8) : bc (a ++ b) = bc a ++ bc b := by simp [bc]
theorem bc_one (l : List UInt8) : ∀ u ∈ bc l, u.oneCell' = true := by
  intro u hu
  obtain ⟨x, _, rfl⟩ := List.mem_map.1 hu
  rfl
theorem bc_get {l : List UInt8} {j : Nat} {u : Value} (h : (bc l)[j]? = some u) : ∃ hj : j < l.length, u = .int .u8 (l[j].toNat : Int) := by
  simp only [bc, List.getElem?_map, Option.map_eq_some_iff] at h
  obtain ⟨x, hx, rfl⟩ := h
  obtain ⟨hj, rfl⟩ := List.getElem?_eq_some_iff.1 hx
  exact ⟨hj, rfl⟩
theorem bc_at {l : List UInt8} {j : Nat} (hj : j < l.length) : (bc l)[j]? = some (.int .u8 ((l.getD j 0).toNat : Int)) := by
  rw [bc, List.getElem?_map, List.getElem?_eq_getElem hj, List.getD_eq_getElem?_getD, List.getElem?_eq_getElem hj]; rfl
theorem addr_zero (g j : Nat) : (⟨g, 0, none⟩ : Addr).add j = ⟨g, j, none⟩ := by
  unfold Addr.add
  by_cases h : j = 0 <;> simp [h]
/- a row of bytes -/
def Row (w : World) (B : Nat) (v : Value) (l : List UInt8) : Prop := w.ownsRow B 5 1 v l.length (bc l)
theorem Row.nil (w : World) (B : Nat) : Row w B (.slice none 0 0) [] := World.ownsRow_nil _ _ _ _
theorem Row.alloc {w : World} {B : Nat} {v : Value} {l : List UInt8} (h : Row w B v l) (o : Obj) : Row (w.alloc o) B v l := World.ownsRow.alloc h o
theorem Row.below {w w2 : World} {B : Nat} {v : Value} {l : List UInt8} (h : Row w B v l) (hb : Below w.heap.size w w2) : Row w2 B v l := own_below h hb
theorem Row.slice {w : World} {B : Nat} {v : Value} {l : List UInt8} (h : Row w B v l) : ∃ p c, v = .slice p l.length c ∧ (l ≠ [] → ∃ g, p = some ⟨g, 0, none⟩ ∧ B ≤ g) ∧ ∀ g, p = some ⟨g, 0, none⟩ → ∀ j, j < l.length → w.cell? ⟨g, j, none⟩ = some (.int .u8 ((l.getD j 0).toNat : Int)) := by
  have hh := h
  obtain ⟨_, h2⟩ := h
  rcases h2 with ⟨e, e0⟩ | ⟨g, cap, cur, rfl, hg, _⟩
  · refine ⟨none, 0, by rw [e, e0], fun hne => absurd (List.eq_nil_of_length_eq_zero e0) hne, fun g hg => by cases hg⟩
  · refine ⟨some ⟨g, 0, none⟩, cap, rfl, fun _ => ⟨g, rfl, hg⟩, fun g2 e j hj => ?_⟩
    injection e with e
    injection e with e
    subst e
    have := World.ownsRow.cells hh (g := g) rfl j _ (bc_at hj)
    rwa [addr_zero] at this
theorem Row.shape {w : World} {B : Nat} {v : Value} {l : List UInt8} (h : Row w B v l) : ∃ p n c, v = .slice p n c ∧ Hid (n = l.length) := by
  obtain ⟨p, c, rfl, _⟩ := h.slice
  exact ⟨p, _, c, rfl, rfl⟩
theorem Row.reads {w : World} {B : Nat} {v : Value} {l : List UInt8} (h : Row w B v l) (hl : l ≠ []) : (convert 92 9 v).run Tryd.prog w = .ok (.string ⟨l.toArray⟩) w := by
  obtain ⟨p, c, rfl, h1, h2⟩ := h.slice
  obtain ⟨g, rfl, _⟩ := h1 hl
  refine run_convert_bytes_back (P := Tryd.prog) w 92 9 5 ⟨g, 0, none⟩ c l Tryd.underlying92 Tryd.underlying5 Tryd.underlying9 ?_
  intro j hj
  rw [addr_zero, h2 g rfl j hj, List.getD_eq_getElem?_getD, List.getElem?_eq_getElem hj]; rfl
theorem u8_wrap {x : Int} (h : 0 ≤ x) : IntKind.u8.wrap x = ((u8 x).toNat : Int) := by
  rw [IntKind.wrap_u8]
  unfold u8
  rw [UInt8.toNat_ofNat']
  omega
theorem one_new (w : World) (x : Value) (t : TypeId) : (w.alloc (.cells #[x] t)).cell? ⟨w.heap.size, 0, none⟩ = some x := by
  have h2 := heap_alloc_new w (.cells #[x] t)
  simp only [World.cell?, h2]; rfl

/- some bytes more behind a row -/
theorem wpList_putB {ops : Array Oper} {rest : List Oper} {o : Oper} {a : Act} {Q : Exit → Act → World → Prop} (w : World) (hgd : o.guard = none) (sO xO : Operand)
    (ho : o.op = .call { callee := .builtin .append, args := #[sO, xO], argTypes := #[92, 92] })
    (B : Nat) (v : Value) (l m : List UInt8) (hs : a.eval sO = v) (hown : Row w B v l) (h0 c : Nat) (hx : a.eval xO = .slice (some ⟨h0, 0, none⟩) m.length c)
    (hnew : ∀ j, j < m.length → w.cell? ⟨h0, j, none⟩ = some (.int .u8 ((m.getD j 0).toNat : Int))) (hlen : l.length + m.length ≤ 1000000000) (hB : B ≤ w.heap.size)
    (h : ∀ v' w', Row w' B v' (l ++ m) → Below B w w' → B ≤ w'.heap.size → wpList Tryd.prog ops Q rest (a.put o.dst v') w') :
    wpList Tryd.prog ops Q (o :: rest) a w := by
  obtain ⟨i0, hi, hz0, hz1, hz2⟩ := info_parts info5
  refine wpList_append_own_at w hgd sO xO 92 ho B 5 i0 (.int .u8 0) 1 1 Tryd.underlying92 hi hz0 hz1 hz2 rfl (by decide) v l.length (bc l) hs hown ⟨h0, 0, none⟩ m.length c (bc m) hx (by rw [bc_length]; omega) ?_ (bc_one m) (by unfold maxLen; omega) (by omega) hB ?_
  · intro j u hu
    obtain ⟨hj, rfl⟩ := bc_get hu
    rw [addr_zero, hnew j hj, List.getD_eq_getElem?_getD, List.getElem?_eq_getElem hj]; rfl
  · intro v' w' hown' hg _ _
    refine h v' w' ?_ (own_grow hown (Below.refl _ _) hg hB) (Nat.le_trans hB hg.size)
    unfold Row
    rw [List.length_append, bc_append]; exact hown'
/- one byte more: its own block has just been laid -/
theorem wpList_put1 {ops : Array Oper} {rest : List Oper} {o : Oper} {a : Act} {Q : Exit → Act → World → Prop} (wr : World) (hgd : o.guard = none) (sO xO : Operand)
    (ho : o.op = .call { callee := .builtin .append, args := #[sO, xO], argTypes := #[92, 92] })
    (B : Nat) (v : Value) (l : List UInt8) (x : Int) (c : UInt8) (t : TypeId) (hs : a.eval sO = v) (hown : Row wr B v l) (h0 : Nat) (hx : a.eval xO = .slice (some ⟨h0, 0, none⟩) 1 1) (hh : h0 = wr.heap.size)
    (hc : x = (c.toNat : Int)) (hlen : l.length + 1 ≤ 1000000000) (hB : B ≤ wr.heap.size)
    (h : ∀ v' w', Row w' B v' (l ++ [c]) → Below B wr w' → B ≤ w'.heap.size → wpList Tryd.prog ops Q rest (a.put o.dst v') w') :
    wpList Tryd.prog ops Q (o :: rest) a (wr.alloc (.cells #[.int .u8 x] t)) := by
  subst hh
  refine wpList_putB _ hgd sO xO ho B v l [c] hs (hown.alloc _) wr.heap.size 1 hx ?_ hlen (by simp; omega) ?_
  · intro j hj
    have hj0 : j = 0 := by simpa using hj
    subst hj0
    rw [one_new, hc]; rfl
  · intro v' w' h1 h2 h3
    exact h v' w' h1 (((Below.refl B wr).alloc hB _).trans h2) h3
/- a text as bytes, just laid -/
theorem text_new (w : World) (s : ByteArray) (C : Nat) (f : Nat × Nat) (j : Nat) (hj : j < s.toList.length) :
    (w.alloc (.cells (bytesRow s C) 5 f)).cell? ⟨w.heap.size, j, none⟩ = some (.int .u8 ((s.toList.getD j 0).toNat : Int)) := by
  have hb : (w.alloc (.cells (bytesRow s C) 5 f)).heap[w.heap.size]? = some (.cells (bytesRow s C) 5 f) := heap_alloc_new w _
  have hl := Om.len_eq s
  have hj2 : j < s.data.size := by rw [hl] at hj; exact hj
  simp only [World.cell?, hb]
  rw [List.getD_eq_getElem?_getD, List.getElem?_eq_getElem hj]
  simp only [bytesRow, Array.getElem?_append, Array.size_map, ByteArray.toList_eq, Array.getElem_toList]
  rw [if_pos hj2, Array.getElem?_map, Array.getElem?_eq_getElem hj2]
  rfl
theorem wpList_putS {ops : Array Oper} {rest : List Oper} {o : Oper} {a : Act} {Q : Exit → Act → World → Prop} (wr : World) (hgd : o.guard = none) (sO xO : Operand)
    (ho : o.op = .call { callee := .builtin .append, args := #[sO, xO], argTypes := #[92, 92] })
    (B : Nat) (v : Value) (l : List UInt8) (s : ByteArray) (C : Nat) (f : Nat × Nat) (hs : a.eval sO = v) (hown : Row wr B v l) (h0 : Nat) (hx : a.eval xO = .slice (some ⟨h0, 0, none⟩) s.size C) (hh : h0 = wr.heap.size)
    (hlen : l.length + s.size ≤ 1000000000) (hB : B ≤ wr.heap.size)
    (h : ∀ v' w', Row w' B v' (l ++ s.toList) → Below B wr w' → B ≤ w'.heap.size → wpList Tryd.prog ops Q rest (a.put o.dst v') w') :
    wpList Tryd.prog ops Q (o :: rest) a (wr.drew.alloc (.cells (bytesRow s C) 5 f)) := by
  subst hh
  have hl := Om.len_eq s
  have hbd : Below wr.heap.size wr (wr.drew.alloc (.cells (bytesRow s C) 5 f)) := (Below.refl wr.heap.size wr).drew.alloc (Nat.le_refl _) _
  refine wpList_putB _ hgd sO xO ho B v l s.toList hs (hown.below hbd) wr.heap.size C (by rw [hl]; exact hx) ?_ (by omega) (Nat.le_trans hB hbd.size) ?_
  · intro j hj
    exact text_new wr.drew s C f j hj
  · intro v' w' h1 h2 h3
    exact h v' w' h1 ((hbd.mono hB).trans h2) h3

end Oc
end Go.Proofs.YtcmoajlcmeimiaaDoor
