/- Package log: a record of an op; some bytes more behind a log's row. -/
import Derived.Test.YtgefpcchcegcpaaGreatDoorTr
import Derived.Test.YtgefpcchcegcpaaGreatDoorV1
namespace Go.Proofs.YtgefpcchcegcpaaGreatDoor
namespace Ts
set_option linter.unusedVariables false
set_option linter.unusedSimpArgs false
open Go.ChangeShapes Go.WideShapes Go.ChangeAt Go.RowKit Cm Ka Kb Na Om Oa Oz Oc Og Oi Hm Ia Ic Ie Ih Tg Th Tp Tr
open La (bel bel_drew errV_zero errV_ne own_ge own_grow own_below Lies)
open Vd (Grew)

theorem Row.two (w : World) (B : Nat) (x y : Int) (c d : UInt8) (hx : x = (c.toNat : Int)) (hy : y = (d.toNat : Int)) (hB : B ≤ w.heap.size) : Row (w.alloc (.cells #[.int .u8 x, .int .u8 y] 5)) B (.slice (some ⟨w.heap.size, 0, none⟩) 2 2) [c, d] := by
  subst hx hy
  refine ⟨rfl, .inr ⟨w.heap.size, 2, _, rfl, hB, heap_alloc_new w _, Nat.le_refl _, by unfold maxLen; omega, rfl, rfl⟩⟩
set_option maxRecDepth 100000 in
set_option maxHeartbeats 2000000 in
theorem record_any (a b t : Int) (p : ByteArray) (c : Int) (vs : Value) (s : List Dt) (w : World) (hd : DtsAt w vs s) (h0 : opE ((a, b), t, p, c, s) = 0) :
    Calls Tryz.prog 27 #[.agg #[.int .i64 a, .int .i64 b, .int .i64 t, .string p, .int .i64 c, vs]] w fun e w' => ∃ v, e = .returned v ∧ Row w' w.heap.size v (recB ((a, b), t, p, c, s)) ∧ Below w.heap.size w w' := by
  have HB1 : Hid (Below w.heap.size w (w.alloc (.cells #[.int .i64 a, .int .i64 b, .int .i64 t, .string p, .int .i64 c, vs] 34))) := (Below.refl _ w).alloc (Nat.le_refl _) _
  obtain ⟨o0, o1, o2, o3, o4, o5⟩ := six_new w a b t p c vs 34
  have C := Ve.encode_right a b t p c vs s _ (hd.below HB1.out) h0
  have hle := bytes_le h0
  obtain ⟨y, hy⟩ : ∃ y, y = bytesS ((a, b), t, p, c, s) := ⟨_, rfl⟩
  have hys : y.toList = bytesB ((a, b), t, p, c, s) := by rw [hy]; exact bytesS_list _
  rw [← hy] at C
  have hsz : y.size = (bytesB ((a, b), t, p, c, s)).length := by rw [← hys, Om.len_eq]
  have hz1 : y.size ≤ 140 := by rw [hsz]; exact hle.2
  have HR : Hid (recB ((a, b), t, p, c, s) = [0, u8 (y.size : Int)] ++ y.toList) := by
    unfold Hid recB
    rw [← hsz, ← hys]
    show [u8 ((y.size : Int) / 256), u8 ((y.size : Int) % 256)] ++ _ = _
    rw [show (y.size : Int) / 256 = 0 by omega, show (y.size : Int) % 256 = y.size by omega]
    rfl
  have HU : Hid ((y.size : Int) = ((u8 (y.size : Int)).toNat : Int)) := (u8_val (by omega) (by omega)).symm
  have hd0 : (y.size : Int) / 256 = 0 := by omega
  clear hd h0 hle hy hys hsz
  go_enter Tryz.func27, Tryz.ntmps27
  go_wp2_with fail
  refine C.mono ?_
  rintro e w2 ⟨rfl, hb2⟩
  have HB2 : Hid (Below w.heap.size w w2) := bel HB1.out hb2
  clear hb2 C o0 o1 o2 o3 o4 o5
  go_wp2_with (at_builtin; refine Ve.wpList_putT _ rfl (.tmp 17) (.tmp 18) rfl w.heap.size _ [0, u8 (y.size : Int)] y rfl (Row.two w2 w.heap.size _ _ 0 (u8 (y.size : Int)) (by first | rfl | (simp; done)) HU.out HB2.out.size) rfl (by simp; omega) (by have := HB2.out.size; simp; omega) ?_; intro v3 w3 hr3 hb3 _; have HR3 : Hid (Row w3 w.heap.size v3 ([0, u8 (y.size : Int)] ++ y.toList)) := hr3; have HB3 : Hid (Below w.heap.size w w3) := ((HB2.out.alloc HB2.out.size _).trans hb3); clear hr3 hb3)
  go_ret
  exact ⟨_, rfl, by rw [HR.out]; exact HR3.out, HB3.out⟩

/- some bytes of another block more, at a step of a region that draws -/
theorem run_putB (W : World) (ty : TypeId) (B : Nat) (v : Value) (l m : List UInt8) (h0 k c : Nat) (hk : m.length = k) (hlen : l.length + k ≤ 1000000000) (hown : Row W B v l) (hB : B ≤ W.heap.size) (hnew : ∀ j, j < k → W.cell? ⟨h0, j, none⟩ = some (.int .u8 ((m.getD j 0).toNat : Int))) :
    ∃ v' w', (Builtin.append_ #[60, 60] ty #[v, .slice (some ⟨h0, 0, none⟩) k c]).run Tryz.prog W = .ok v' w' ∧ Row w' B v' (l ++ m) ∧ Grew W w' v v' := by
  subst hk
  obtain ⟨i0, hi, hz0, hz1, hz2⟩ := info_parts info5
  obtain ⟨v', w', hr, h2, h3, _, h5⟩ := run_append_own_at (P := Tryz.prog) W B 60 ty 5 i0 (.int .u8 0) 1 1 Tryz.underlying60 hi hz0 hz1 hz2 rfl (by decide) v l.length (bc l) hown ⟨h0, 0, none⟩ m.length c (bc m) (by rw [bc_length]; omega) (by
    intro j u hu
    obtain ⟨hj, rfl⟩ := bc_get hu
    rw [addr_zero, hnew j hj, List.getD_eq_getElem?_getD, List.getElem?_eq_getElem hj]; rfl) (bc_one _) (by unfold maxLen; omega) (by omega) hB
  refine ⟨v', w', hr, ?_, h3, ?_⟩
  · unfold Row
    rw [List.length_append, bc_append]; exact h2
  · rcases h5 with e | e
    · exact Or.inl e
    · refine Or.inr fun k hk => ?_
      rw [e] at hk; injection hk with hk; omega
theorem step_putB {ops : Array Oper} {o : Oper} {a : Act} {W : World} {K : Act → World → Prop} {Q : Exit → Act → World → Prop} {E : Prop} (hgd : o.guard = none) (sO xO : Operand)
    (ho : o.op = .call { callee := .builtin .append, args := #[sO, xO], argTypes := #[60, 60] })
    (B : Nat) (v : Value) (l m : List UInt8) (hs : a.eval sO = v) (h0 k c : Nat) (hx : a.eval xO = .slice (some ⟨h0, 0, none⟩) k c) (hk : m.length = k)
    (hlen : l.length + k ≤ 1000000000) (hown : Row W B v l) (hB : B ≤ W.heap.size) (hnew : ∀ j, j < k → W.cell? ⟨h0, j, none⟩ = some (.int .u8 ((m.getD j 0).toNat : Int)))
    (h : ∀ v' w', Row w' B v' (l ++ m) → Grew W w' v v' → K (a.put o.dst v') w') :
    if Region.wanted o (yielded ops a.tmps) = true then Oper.wp Tryz.prog o a W K Q else E := by
  have hw : Region.wanted o (yielded ops a.tmps) = true := by simp [Region.wanted, hgd]
  rw [if_pos hw]
  obtain ⟨v', w', hr, h2, h3⟩ := run_putB W o.type B v l m h0 k c hk hlen hown hB hnew
  unfold Oper.wp execOp
  simp only [ho, resolve, invoke, builtin, Sem.run_bind, Sem.run_pure, Result.andThen_ok, List.map_toArray, List.map_cons, List.map_nil, hs, hx, hr]
  exact h v' w' h2 h3
theorem wpList_putG {ops : Array Oper} {rest : List Oper} {o : Oper} {a : Act} {Q : Exit → Act → World → Prop} (W : World) (hgd : o.guard = none) (sO xO : Operand)
    (ho : o.op = .call { callee := .builtin .append, args := #[sO, xO], argTypes := #[60, 60] })
    (B : Nat) (v : Value) (l m : List UInt8) (hs : a.eval sO = v) (h0 k c : Nat) (hx : a.eval xO = .slice (some ⟨h0, 0, none⟩) k c) (hk : m.length = k)
    (hlen : l.length + k ≤ 1000000000) (hown : Row W B v l) (hB : B ≤ W.heap.size) (hnew : ∀ j, j < k → W.cell? ⟨h0, j, none⟩ = some (.int .u8 ((m.getD j 0).toNat : Int)))
    (h : ∀ v' w', Row w' B v' (l ++ m) → Grew W w' v v' → wpList Tryz.prog ops Q rest (a.put o.dst v') w') :
    wpList Tryz.prog ops Q (o :: rest) a W := by
  refine wpList_plain hgd fun K hK => ?_
  obtain ⟨v', w', hr, h2, h3⟩ := run_putB W o.type B v l m h0 k c hk hlen hown hB hnew
  unfold Oper.wp execOp
  simp only [ho, resolve, invoke, builtin, Sem.run_bind, Sem.run_pure, Result.andThen_ok, List.map_toArray, List.map_cons, List.map_nil, hs, hx, hr]
  exact hK _ _ (h v' w' h2 h3)
/- a row of bytes, not empty, as a slice -/
theorem row_some {w : World} {B : Nat} {v : Value} {l : List UInt8} (h : Row w B v l) (hl : l ≠ []) : ∃ g c, v = .slice (some ⟨g, 0, none⟩) l.length c ∧ B ≤ g ∧ g < w.heap.size ∧ l.length ≤ c ∧ ∀ W : World, W.heap[g]? = w.heap[g]? → ∀ j, j < l.length → W.cell? ⟨g, j, none⟩ = some (.int .u8 ((l.getD j 0).toNat : Int)) := by
  have hs := h.slice
  rcases h.2 with ⟨e, e0⟩ | ⟨g, cap, cur, rfl, hg, hh, hnc, _⟩
  · exact absurd (List.eq_nil_of_length_eq_zero e0) hl
  · obtain ⟨p, c, hv, _, h2⟩ := hs
    injection hv with e1 e2 e3
    subst e1 e3
    exact ⟨g, cap, rfl, hg, (Array.getElem?_eq_some_iff.1 hh).1, hnc, fun W hW j hj => (cell_stay hW).trans (h2 g rfl j hj)⟩
theorem undrew_grew {w w' : World} {v v' : Value} (h : Grew w.drew w' v v') : Grew w w' v v' := ⟨⟨h.1.os, h.1.tape, h.1.output, h.1.size, h.1.block⟩, h.2⟩

end Ts
end Go.Proofs.YtgefpcchcegcpaaGreatDoor
