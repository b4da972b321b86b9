/- Package diff: strings.Clone (drawn from Vh); calls at a step. -/
import Derived.Test.YtmenknbgmgnfhaaDoorZg
import Derived.Laws.Tables
import Derived.Laws.IdiomStrings
import Derived.Lib.UnsafeStr
import Derived.Lib.BufferWrite
import Derived.Laws.MakeOwn
namespace Go.Proofs.YtmenknbgmgnfhaaDoor
namespace Zh
set_option linter.unusedVariables false
set_option linter.unusedSimpArgs false
open Go.ChangeShapes Go.WideShapes Go.ChangeAt Go.RowKit Ka Kb Zb Zc Zd Ze Zf Zg

theorem info5 : (Tryd.prog.info? 5).map (fun i => (i.zero, i.size, i.bytes)) = some (some (.int .u8 0), 1, 1) := by kernel_rfl
theorem toList_mk (l : List UInt8) : (⟨l.toArray⟩ : ByteArray).toList = l := by rw [ByteArray.toList_eq]
theorem mk_eq {a b : ByteArray} (h : a.toList = b.toList) : a = b := bytes_inj h
theorem addr_zero (g j : Nat) : (⟨g, 0, none⟩ : Addr).add j = ⟨g, j, none⟩ := by
  unfold Addr.add
  by_cases h : j = 0 <;> simp [h]
theorem cell_of {w : World} {g i : Nat} {cur : Array Value} {t : TypeId} {f : Nat × Nat} (hg : w.heap[g]? = some (.cells cur t f)) {v : Value} (hv : cur[i]? = some v) : w.cell? ⟨g, i, none⟩ = some v := by
  simp only [World.cell?, hg]; exact hv
set_option maxHeartbeats 2000000 in
set_option maxRecDepth 100000 in
theorem lite_any (s : ByteArray) (w : World) (hs : s.size ≤ 255) :
    Calls Tryd.prog 18 #[.string s] w fun e w' => e = .returned (.string s) ∧ Below w.heap.size w w' := by
  by_cases h0 : s.size = 0
  · obtain rfl : s = ⟨#[]⟩ := by
      apply mk_eq
      have h1 : s.toList = [] := List.eq_nil_of_length_eq_zero (by rw [Kb.len_eq]; exact h0)
      rw [h1, toList_mk []]
    go_enter Tryd.func18, Tryd.ntmps18
    go_wp2_with fail
    go_ret
    exact ⟨rfl, Below.refl _ _⟩
  · obtain ⟨i0, hi, hz0, hz1, hz2⟩ := info_parts info5
    have hin : (Tryd.prog.info? 5).map (·.size) = some 1 := by rw [hi]; simp [hz1]
    have hce : Tryd.prog.cellsOf 5 = 1 := by simp [Program.cellsOf, hi, hz1]
    have hne : s.data.toList ≠ [] := by
      intro e
      apply h0
      rw [← Kb.len_eq, ByteArray.toList_eq, e]; rfl
    have hsl : s.data.toList.length = s.size := by rw [← ByteArray.toList_eq, Kb.len_eq]
    obtain ⟨Z, hZ⟩ : ∃ Z, Z = madeCells (Value.int .u8 0).cells (((s.size : Nat) : Int).toNat * i0.size) := ⟨_, rfl⟩
    have hZs : Z.size = s.size := by rw [hZ, size_madeCells, hz1]; simp
    have mk : ∀ W : World, (Instr.makeSlice 49 (.int .i64 (s.size : Int)) (.int .i64 (s.size : Int))).run Tryd.prog W = .ok (.slice (some ⟨W.heap.size, 0, none⟩) s.size s.size) (W.alloc (.cells Z 5)) := by
      intro W
      have h := run_make (P := Tryd.prog) W 49 5 i0 (.int .u8 0) Tryd.underlying49 hi hz0 .i64 .i64 (s.size : Int) (s.size : Int) (by omega) (by omega) (by rw [hz2]; omega) (by omega)
      rw [← hZ] at h
      simpa using h
    obtain ⟨Y, hY⟩ : ∃ Y, Y = (Z.toList.take 0 ++ Lib.byteCells s.data.toList ++ Z.toList.drop (0 + s.size)).toArray := ⟨_, rfl⟩
    have cp := Lib.run_copy_row_string (P := Tryd.prog) (w.alloc (.cells Z 5)) 49 9 3 5 w.heap.size 0 s.size s.size s Z 5 Tryd.underlying49 hin (heap_alloc_new w _) (Nat.le_refl _) (by omega)
    rw [← hY] at cp
    have hYl : Y.toList = Lib.byteCells s.data.toList := by
      rw [hY, List.toList_toArray, List.take_zero, List.nil_append, List.drop_of_length_le (by rw [Array.length_toList]; omega), List.append_nil]
    have hYs : Y.size = s.size := by rw [← Array.length_toList, hYl, Lib.byteCells_length, hsl]
    have hb : ((w.alloc (.cells Z 5)).setRow w.heap.size Y).heap[w.heap.size]? = some (.cells Y 5 (0, 0)) := setRow_heap _ _ Z _ 5 (0, 0) (heap_alloc_new w _)
    have us := Lib.run_unsafeString_row (P := Tryd.prog) ((w.alloc (.cells Z 5)).setRow w.heap.size Y) 52 3 9 5 Tryd.underlying52 hce w.heap.size Y.size (by unfold World.shape?; rw [hb]) s.data.toList hne (by omega) (by omega) (by
      intro j x hx
      rw [addr_zero]
      refine cell_of hb ?_
      rw [← Array.getElem?_toList, hYl]
      simp [Lib.byteCells, hx])
    rw [hsl] at us
    have HBE : Hid (Below w.heap.size w ((w.alloc (.cells Z 5)).setRow w.heap.size Y)) :=
      ((Below.refl _ w).alloc (Nat.le_refl _) _).trans ⟨rfl, rfl, rfl, by simp, fun k hk => setRow_other _ _ _ _ (by omega)⟩
    have hsz : (s.size : Int) ≤ 255 := by omega
    have h0b : ((s.size : Int) == 0) = false := by simpa using h0
    have h0p : 0 < s.size := by omega
    have h0z : (0 : Int) < s.size := by omega
    clear hY hZ hb hYl hne hsl h0
    go_enter Tryd.func18, Tryd.ntmps18
    go_wp2_with fail
    go_ret
    exact ⟨rfl, Lib.below_freeze HBE.out (p := ⟨w.heap.size, 0, none⟩) (Nat.le_refl _) _⟩
theorem clone_any (s : ByteArray) (w : World) (hs : s.size ≤ 255) :
    Calls Tryd.prog 15 #[.string s] w fun e w' => e = .returned (.string s) ∧ Below w.heap.size w w' := by
  have C := lite_any s w hs
  go_enter Tryd.func15, Tryd.ntmps15
  go_wp2_with fail
  refine C.mono ?_
  rintro e w2 ⟨rfl, hb⟩
  have HB : Hid (Below w.heap.size w w2) := hb
  clear hb C
  go_wp2_with fail
  go_ret
  exact ⟨rfl, HB.out⟩

theorem step_call1 {ops : Array Oper} {o : Oper} {a : Act} {W : World} {K : Act → World → Prop} {Q : Exit → Act → World → Prop} {E : Prop} {R : Value → World → Prop} (hgd : o.guard = none) (F : FuncId) (x : Operand) (T : TypeId)
    (ho : o.op = .call { callee := .value (.func F), args := #[x], argTypes := #[T] }) (v0 : Value) (hx : a.eval x = v0) (hcf : ∀ args W, (callFunc F args).run Tryd.prog W = .ok (.enter F args) W) (hC : Calls Tryd.prog F #[v0] W fun e w' => ∃ v, e = .returned v ∧ R v w')
    (h : ∀ v w', R v w' → K (a.put o.dst v) w') :
    if Region.wanted o (yielded ops a.tmps) = true then Oper.wp Tryd.prog o a W K Q else E := by
  have hw : Region.wanted o (yielded ops a.tmps) = true := by simp [Region.wanted, hgd]
  rw [if_pos hw]
  have hr : (execOp a.eval o).run Tryd.prog W = .ok (.enter F #[v0]) W := by
    have he : a.eval (.func F) = .func (.func F) #[] #[] := rfl
    unfold execOp
    simp only [ho, resolve, invoke, List.map_toArray, List.map_cons, List.map_nil, hx, he]
    exact hcf _ _
  unfold Oper.wp
  rw [hr, Oper.upon_enter]
  refine hC.mono ?_
  rintro e w' ⟨v, rfl, hv⟩
  exact h v w' hv
theorem step_call2 {ops : Array Oper} {o : Oper} {a : Act} {W : World} {K : Act → World → Prop} {Q : Exit → Act → World → Prop} {E : Prop} {R : Value → World → Prop} (hgd : o.guard = none) (F : FuncId) (x y : Operand) (T U : TypeId)
    (ho : o.op = .call { callee := .value (.func F), args := #[x, y], argTypes := #[T, U] }) (v0 v1 : Value) (hx : a.eval x = v0) (hy : a.eval y = v1) (hcf : ∀ args W, (callFunc F args).run Tryd.prog W = .ok (.enter F args) W) (hC : Calls Tryd.prog F #[v0, v1] W fun e w' => ∃ v, e = .returned v ∧ R v w')
    (h : ∀ v w', R v w' → K (a.put o.dst v) w') :
    if Region.wanted o (yielded ops a.tmps) = true then Oper.wp Tryd.prog o a W K Q else E := by
  have hw : Region.wanted o (yielded ops a.tmps) = true := by simp [Region.wanted, hgd]
  rw [if_pos hw]
  have hr : (execOp a.eval o).run Tryd.prog W = .ok (.enter F #[v0, v1]) W := by
    have he : a.eval (.func F) = .func (.func F) #[] #[] := rfl
    unfold execOp
    simp only [ho, resolve, invoke, List.map_toArray, List.map_cons, List.map_nil, hx, hy, he]
    exact hcf _ _
  unfold Oper.wp
  rw [hr, Oper.upon_enter]
  refine hC.mono ?_
  rintro e w' ⟨v, rfl, hR⟩
  exact h v w' hR
theorem enter_clone (args : Array Value) (W : World) : (callFunc 15 args).run Tryd.prog W = .ok (.enter 15 args) W := by
  first | kernel_rfl | simp [callFunc, go_sem, Tryd.func15]
theorem enter_same (args : Array Value) (W : World) : (callFunc 13 args).run Tryd.prog W = .ok (.enter 13 args) W := by
  first | kernel_rfl | simp [callFunc, go_sem, Tryd.func13]

end Zh
end Go.Proofs.YtmenknbgmgnfhaaDoor
