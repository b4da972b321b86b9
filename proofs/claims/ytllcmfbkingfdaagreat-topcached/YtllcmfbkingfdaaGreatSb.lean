/- Rows of stretches in memory: one more is put behind them. -/
import Derived.Test.YtllcmfbkingfdaaGreatSm
import Derived.Test.YtllcmfbkingfdaaGreatJ4
import Derived.Test.YtllcmfbkingfdaaGreatJ2
namespace Go.Proofs.YtllcmfbkingfdaaGreat
namespace Sb
set_option linter.unusedVariables false
open Go.ChangeShapes Go.WideShapes Go.ChangeAt Go.RowKit Cm Ka Kb Na Sm
open La (bel bel_drew errV_zero errV_ne own_ge own_grow own_below LeafsIn)
open Bm (Leaf ahd bookE text)

def bare (l : List Leaf) (H : List ByteArray) : List Mk := H.map fun p => (p, ((cutF l p : Int), (0 : Int)))
theorem infoSt : (Tryz.prog.info? 52).map (fun i => (i.zero, i.size, i.bytes)) = some (some (.agg #[.string ⟨#[]⟩, .int .i64 0, .int .i64 0]), 3, 32) := by kernel_rfl
theorem one_own (w : World) (l : List Leaf) : (w.alloc (.cells #[.string ⟨#[]⟩, .int .i64 0, .int .i64 0] 52)).ownsRow w.heap.size 52 3 (.slice (some ⟨w.heap.size, 0, none⟩) 1 1) (bare l (heads [])).length (flat (bare l (heads []))) := by
  have e : bare l (heads []) = [(ByteArray.empty, ((0 : Int), (0 : Int)))] := by
    show [(ByteArray.empty, ((cutF l ByteArray.empty : Int), (0 : Int)))] = _
    rw [cutF_nil]; rfl
  rw [e]
  refine ⟨rfl, Or.inr ⟨w.heap.size, 1, _, rfl, Nat.le_refl _, heap_alloc_new w _, Nat.le_refl _, by unfold maxLen; omega, rfl, rfl⟩⟩

theorem cell_of {w : World} {D : Nat} {cs : Array Value} {t : TypeId} (h : w.heap[D]? = some (.cells cs t)) {i : Nat} {u : Value} (hu : cs[i]? = some u) : w.cell? ⟨D, i, none⟩ = some u := by
  simp only [World.cell?, h]; simpa using hu
/- append of one stretch to a row of the call's own, as one step of a region that draws -/
theorem step_put3 {ops : Array Oper} {o : Oper} {a : Act} {W : World} {K : Act → World → Prop} {Q : Exit → Act → World → Prop} {E : Prop} (hgd : o.guard = none) (sO xO : Operand)
    (ho : o.op = .call { callee := .builtin .append, args := #[sO, xO], argTypes := #[40, 40] })
    (B : Nat) (v : Value) (L : List Mk) (x : Mk) (hs : a.eval sO = v) (h0 : Nat) (hx : a.eval xO = .slice (some ⟨h0, 0, none⟩) 1 1)
    (hlen : L.length + 1 ≤ 1048576) (hB : B ≤ W.heap.size) (hown : W.ownsRow B 52 3 v L.length (flat L)) (hc0 : W.heap[h0]? = some (.cells #[.string x.1, .int .i64 x.2.1, .int .i64 x.2.2] 52))
    (h : ∀ v' w', w'.ownsRow B 52 3 v' (L ++ [x]).length (flat (L ++ [x])) → W.grownBy w' v.ownBlock → (v'.ownBlock = v.ownBlock ∨ v'.ownBlock = some W.heap.size) → K (a.put o.dst v') w') :
    if Region.wanted o (yielded ops a.tmps) = true then Oper.wp Tryz.prog o a W K Q else E := by
  have hw : Region.wanted o (yielded ops a.tmps) = true := by simp [Region.wanted, hgd]
  rw [if_pos hw]
  obtain ⟨i0, hi, hz0, hz1, hz2⟩ := info_parts infoSt
  have e3 : flat [x] = [.string x.1, .int .i64 x.2.1, .int .i64 x.2.2] := rfl
  obtain ⟨v', w', hr, h2, h3, _, h5⟩ := run_append_own_at (P := Tryz.prog) W B 40 o.type 52 i0 (.agg #[.string ⟨#[]⟩, .int .i64 0, .int .i64 0]) 3 32 Tryz.underlying40 hi hz0 hz1 hz2 rfl (by decide) v L.length (flat L) hown ⟨h0, 0, none⟩ 1 1 (flat [x]) rfl (by
    intro j u hu
    rw [Addr.add_lit, Nat.zero_add]
    rw [e3] at hu
    exact cell_of hc0 (by simpa using hu)) (by
    intro u hu
    rw [e3] at hu
    simp only [List.mem_cons, List.not_mem_nil, or_false] at hu
    rcases hu with rfl | rfl | rfl <;> rfl) (by unfold maxLen; omega) (by omega) hB
  unfold Oper.wp execOp
  simp only [ho, resolve, invoke, builtin, Sem.run_bind, Sem.run_pure, Result.andThen_ok, List.map_toArray, List.map_cons, List.map_nil, hs, hx, hr]
  refine h v' w' ?_ h3 h5
  rw [flat_append, List.length_append]
  exact h2

end Sb
end Go.Proofs.YtllcmfbkingfdaaGreat
