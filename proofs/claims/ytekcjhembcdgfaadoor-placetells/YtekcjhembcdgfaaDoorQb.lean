/- A text as bytes, one byte more behind it, as a text again: 'x := []byte(s); x = append(x, c); string(x)'. -/
import Derived.Test.YtekcjhembcdgfaaDoorQa
import Derived.Laws.IdiomStrings
import Derived.ArgAppend
namespace Go.Proofs.YtekcjhembcdgfaaDoor
namespace Qb
set_option linter.unusedVariables false
open Go.RowKit Pa Pb Pc Pd Pe Qa

theorem info5 : (Tryd.prog.info? 5).map (fun i => (i.zero, i.size, i.bytes)) = some (some (.int .u8 0), 1, 1) := by kernel_rfl

def bc (l : List UInt8) : List Value := l.map fun x => Value.int .u8 (x.toNat : Int)
theorem bc_length (l : List UInt8) : (bc l).length = l.length := by simp [bc]
theorem bc_get {l : List UInt8} {j : Nat} {u : Value} (h : (bc l)[j]? = some u) : ∃ hj : j < l.length, u = .int .u8 (l[j].toNat : Int) := by
  simp only [bc, List.getElem?_map, Option.map_eq_some_iff] at h
  obtain ⟨x, hx, rfl⟩ := h
  obtain ⟨hj, rfl⟩ := List.getElem?_eq_some_iff.1 hx
  exact ⟨hj, rfl⟩

/- a slice of bytes, of which nothing is asked but its cells, reads as a text, in each later world too -/
def Reads (v : Value) (T : ByteArray) (w : World) : Prop :=
  ∀ w2, Below w.heap.size w w2 → (convert 56 9 v).run Tryd.prog w2 = .ok (.string T) w2

theorem reads_of {g cap : Nat} {l : List UInt8} {w : World} (hg : g < w.heap.size) (hc : ∀ j (hj : j < l.length), w.cell? ⟨g, j, none⟩ = some (.int .u8 (l[j].toNat : Int))) :
    Reads (.slice (some ⟨g, 0, none⟩) l.length cap) ⟨l.toArray⟩ w := by
  intro w2 hb
  refine run_convert_bytes_back (P := Tryd.prog) w2 56 9 5 ⟨g, 0, none⟩ cap l Tryd.underlying56 Tryd.underlying5 Tryd.underlying9 ?_
  intro j hj
  have e2 : (⟨g, 0, none⟩ : Addr).add j = ⟨g, j, none⟩ := by
    unfold Addr.add
    by_cases h : j = 0 <;> simp [h]
  rw [e2, hb.cell (p := ⟨g, j, none⟩) hg]
  exact hc j hj

theorem wpList_push {ops : Array Oper} {rest : List Oper} {o : Oper} {a : Act} {Q : Exit → Act → World → Prop} (w : World) (hgd : o.guard = none) (sO xO : Operand)
    (ho : o.op = .call { callee := .builtin .append, args := #[sO, xO], argTypes := #[56, 56] })
    (B g0 h0 C : Nat) (s : List UInt8) (c : UInt8) (hs : a.eval sO = .slice (some ⟨g0, 0, none⟩) s.length C) (hx : a.eval xO = .slice (some ⟨h0, 0, none⟩) 1 1)
    (hs1 : s.length ≤ 1000) (hB : B ≤ g0) (hg0 : g0 < w.heap.size) (hh0 : h0 ≠ g0)
    (hcell : ∀ j (hj : j < s.length), w.cell? ⟨g0, j, none⟩ = some (.int .u8 (s[j].toNat : Int)))
    (hspare : s.length + 1 ≤ C → (w.cell? ⟨g0, s.length, none⟩).isSome = true ∧ w.frozen? ⟨g0, s.length, none⟩ = false)
    (hnew : w.cell? ⟨h0, 0, none⟩ = some (.int .u8 (c.toNat : Int))) (T : ByteArray) (hT : T = ⟨(s ++ [c]).toArray⟩)
    (h : ∀ g cap w', Below B w w' → Reads (.slice (some ⟨g, 0, none⟩) (s.length + 1) cap) T w' → wpList Tryd.prog ops Q rest (a.put o.dst (.slice (some ⟨g, 0, none⟩) (s.length + 1) cap)) w') :
    wpList Tryd.prog ops Q (o :: rest) a w := by
  subst hT
  obtain ⟨i0, hi, hz0, hz1, hz2⟩ := info_parts info5
  have hnews : ∀ j u, (bc [c])[j]? = some u → w.cell? ((⟨h0, 0, none⟩ : Addr).add j) = some u := by
    intro j u hu
    obtain ⟨hj, rfl⟩ := bc_get hu
    have hj0 : j = 0 := by simpa using hj
    subst hj0
    simpa [Addr.add] using hnew
  refine wpList_append_arg w hgd sO xO 56 ho 5 i0 (.int .u8 0) 1 1 Tryd.underlying56 hi hz0 hz1 hz2 rfl (by decide) g0 0 s.length C (bc s) hs (by rw [bc_length]; omega) ?_ ⟨h0, 0, none⟩ 1 1 (bc [c]) hx rfl hnews ?_ ?_ (by unfold maxLen; omega) (by omega) ?_ ?_
  · intro j u hu
    obtain ⟨hj, rfl⟩ := bc_get hu
    rw [Nat.zero_add]; exact hcell j hj
  · intro u hu
    simp [bc] at hu
    subst hu; rfl
  · intro hr j hj
    have hj0 : j = 0 := by rw [bc_length] at hj; simpa using hj
    subst hj0
    simp only [Nat.zero_add, Nat.mul_one, Nat.add_zero]
    exact hspare hr
  · intro hr
    refine h g0 C _ ?_ ?_
    · have e : w.setCells g0 (0 + s.length * 1) (bc [c]) = w.setCell ⟨g0, 0 + s.length * 1, none⟩ (.int .u8 (c.toNat : Int)) := rfl
      rw [e]
      exact (Below.refl B w).setCell (p := ⟨g0, 0 + s.length * 1, none⟩) hB _
    · have hrd := reads_of (g := g0) (cap := C) (l := s ++ [c]) (w := w.setCells g0 (0 + s.length * 1) (bc [c])) ?_ ?_
      · simpa using hrd
      · have e : w.setCells g0 (0 + s.length * 1) (bc [c]) = w.setCell ⟨g0, 0 + s.length * 1, none⟩ (.int .u8 (c.toNat : Int)) := rfl
        rw [e]; simpa using hg0
      · intro j hj
        rw [Nat.zero_add, Nat.mul_one]
        by_cases hlt : j < s.length
        · rw [World.cell?_setCells_out g0 (bc [c]) s.length w ⟨g0, j, none⟩ (fun _ _ => Or.inl hlt), hcell j hlt, List.getElem_append_left hlt]
        · have hj2 : j = s.length := by simp at hj; omega
          subst hj2
          have := World.cell?_setCells_in g0 (bc [c]) s.length w (fun k hk => by
            have hk0 : k = 0 := by rw [bc_length] at hk; simpa using hk
            subst hk0
            exact (hspare hr).1) 0 (by simp [bc])
          rw [Nat.add_zero] at this
          rw [this]
          simp [bc]
  · intro hg v' w' hown hgr
    rcases hown.2 with ⟨_, h0'⟩ | ⟨g, cap, cur, rfl, hbg, hgg, _⟩
    · omega
    · refine h g cap w' ⟨hgr.os, hgr.tape, hgr.output, hgr.size, fun k hk => hgr.block k (by omega) (by simp)⟩ ?_
      have hglt : g < w'.heap.size := by
        rcases Nat.lt_or_ge g w'.heap.size with h2 | h2
        · exact h2
        · rw [Array.getElem?_eq_none h2] at hgg; cases hgg
      have hrd := reads_of (g := g) (cap := cap) (l := s ++ [c]) (w := w') hglt ?_
      · simpa using hrd
      · intro j hj
        have hcs := hown.cells (g := g) rfl j (.int .u8 ((s ++ [c])[j].toNat : Int)) (by
          have e : bc s ++ bc [c] = bc (s ++ [c]) := by simp [bc]
          rw [e, bc, List.getElem?_map, List.getElem?_eq_getElem hj]; rfl)
        have e2 : (⟨g, 0, none⟩ : Addr).add j = ⟨g, j, none⟩ := by
          unfold Addr.add
          by_cases h : j = 0 <;> simp [h]
        rw [e2] at hcs
        exact hcs

/- what '[]byte(s)' and the one byte's own block hold -/
theorem laid_cell (w : World) (s : ByteArray) (C : Nat) (x : Value) (f : Nat × Nat) (j : Nat) (hj : j < s.toList.length) :
    (((w.alloc (.cells (bytesRow s C) 5 f)).alloc (.cells #[x] 5)).drew).cell? ⟨w.heap.size, j, none⟩ = some (.int .u8 ((s.toList[j]).toNat : Int)) := by
  have e : (((w.alloc (.cells (bytesRow s C) 5 f)).alloc (.cells #[x] 5)).drew).cell? ⟨w.heap.size, j, none⟩ = (w.alloc (.cells (bytesRow s C) 5 f)).cell? ⟨w.heap.size, j, none⟩ := by
    rw [World.cell?_drew]
    exact World.cell?_alloc_lt _ _ ⟨w.heap.size, j, none⟩ (by simp)
  rw [e]
  have hb : (w.alloc (.cells (bytesRow s C) 5 f)).heap[w.heap.size]? = some (.cells (bytesRow s C) 5 f) := heap_alloc_new w _
  have hl := len_eq s
  have hj2 : j < s.data.size := by rw [hl] at hj; exact hj
  simp only [World.cell?, hb]
  simp only [bytesRow, Array.getElem?_append, Array.size_map, ByteArray.toList_eq, Array.getElem_toList]
  rw [if_pos hj2, Array.getElem?_map, Array.getElem?_eq_getElem hj2]
  rfl
theorem laid_spare (w : World) (s : ByteArray) (C : Nat) (x : Value) (hr : s.toList.length + 1 ≤ C) :
    ((((w.alloc (.cells (bytesRow s C) 5 ((bytesRow s C).size, (bytesRow s C).size + 1))).alloc (.cells #[x] 5)).drew).cell? ⟨w.heap.size, s.toList.length, none⟩).isSome = true ∧
    (((w.alloc (.cells (bytesRow s C) 5 ((bytesRow s C).size, (bytesRow s C).size + 1))).alloc (.cells #[x] 5)).drew).frozen? ⟨w.heap.size, s.toList.length, none⟩ = false := by
  have hl := len_eq s
  have hsz : (bytesRow s C).size = C := by
    have : s.data.size = s.size := rfl
    simp [bytesRow, this]; omega
  constructor
  · rw [World.cell?_drew, World.cell?_alloc_lt _ _ ⟨w.heap.size, s.toList.length, none⟩ (by simp)]
    have hb : (w.alloc (.cells (bytesRow s C) 5 ((bytesRow s C).size, (bytesRow s C).size + 1))).heap[w.heap.size]? = some (.cells (bytesRow s C) 5 ((bytesRow s C).size, (bytesRow s C).size + 1)) := heap_alloc_new w _
    simp only [World.cell?, hb]
    rw [Array.getElem?_eq_getElem (show s.toList.length < (bytesRow s C).size by omega)]
    rfl
  · rw [World.frozen?_drew, World.frozen?_alloc_old _ _ ⟨w.heap.size, s.toList.length, none⟩ (by simp)]
    have hb : (w.alloc (.cells (bytesRow s C) 5 ((bytesRow s C).size, (bytesRow s C).size + 1))).heap[w.heap.size]? = some (.cells (bytesRow s C) 5 ((bytesRow s C).size, (bytesRow s C).size + 1)) := heap_alloc_new w _
    simp only [World.frozen?, hb]
    simp
    omega
theorem laid_new (w : World) (A : Obj) (x : Value) : (((w.alloc A).alloc (.cells #[x] 5)).drew).cell? ⟨w.heap.size + 1, 0, none⟩ = some x := by
  rw [World.cell?_drew, World.cell?_alloc_at _ _ _ _ (by simp)]; rfl
theorem laid_below (w : World) (A : Obj) (x : Value) : Below w.heap.size w (((w.alloc A).alloc (.cells #[x] 5)).drew) :=
  (((Below.refl _ _).alloc (Nat.le_refl _) _).alloc (by simp) _).drew

/- the whole, for a walk: behind '[]byte(s)' and the block of the one byte -/
theorem wpList_push_laid {ops : Array Oper} {rest : List Oper} {o : Oper} {a : Act} {Q : Exit → Act → World → Prop} (wr : World) (hgd : o.guard = none) (sO xO : Operand)
    (ho : o.op = .call { callee := .builtin .append, args := #[sO, xO], argTypes := #[56, 56] })
    (B : Nat) (s : ByteArray) (c : Int) (cc : UInt8) (C : Nat) (hs : a.eval sO = .slice (some ⟨wr.heap.size, 0, none⟩) s.size C) (hx : a.eval xO = .slice (some ⟨wr.heap.size + 1, 0, none⟩) 1 1)
    (hs1 : s.size ≤ 1000) (hB : B ≤ wr.heap.size) (hc : c = (cc.toNat : Int)) (T : ByteArray) (hT : T = ⟨(s.toList ++ [cc]).toArray⟩)
    (h : ∀ g cap w', Below B wr w' → Reads (.slice (some ⟨g, 0, none⟩) (s.size + 1) cap) T w' → wpList Tryd.prog ops Q rest (a.put o.dst (.slice (some ⟨g, 0, none⟩) (s.size + 1) cap)) w') :
    wpList Tryd.prog ops Q (o :: rest) a (((wr.alloc (.cells (bytesRow s C) 5 ((bytesRow s C).size, (bytesRow s C).size + 1))).alloc (.cells #[.int .u8 c] 5)).drew) := by
  have hl := len_eq s
  refine wpList_push _ hgd sO xO ho B wr.heap.size (wr.heap.size + 1) C s.toList cc (by rw [hl]; exact hs) hx (by omega) hB (by simp; omega) (by omega) (fun j hj => laid_cell wr s C _ _ j hj) (fun hr => laid_spare wr s C _ hr) (by rw [hc]; exact laid_new wr _ _) T hT ?_
  intro g cap w' hb hrd
  rw [hl] at hrd ⊢
  exact h g cap w' (((laid_below wr _ _).mono hB).trans hb) hrd

end Qb
end Go.Proofs.YtekcjhembcdgfaaDoor
