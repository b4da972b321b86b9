/- What strings.Clone answers. -/
import Derived.Test.YtcmoajlcmeimiaaDoorVg
namespace Go.Proofs.YtcmoajlcmeimiaaDoor
namespace Vh
set_option linter.unusedVariables false
open Go.ChangeShapes Go.WideShapes Go.ChangeAt Go.RowKit Cm Ka Kb Na Om Oa Oz Oc Og Oi Ov Va Vb Vc Vd Ve Vf Vg
open La (bel bel_drew errV_zero errV_ne own_ge own_grow own_below)

set_option maxHeartbeats 2000000 in
set_option maxRecDepth 100000 in
theorem lite_any (s : ByteArray) (w : World) (hs : s.size ≤ 255) :
    Calls Tryd.prog 86 #[.string s] w fun e w' => e = .returned (.string s) ∧ Below w.heap.size w w' := by
  by_cases h0 : s.size = 0
  · obtain rfl : s = ⟨#[]⟩ := by
      apply mk_eq
      have h1 : s.toList = [] := List.eq_nil_of_length_eq_zero (by rw [Om.len_eq]; exact h0)
      rw [h1, toList_mk []]
    go_enter Tryd.func86, Tryd.ntmps86
    go_wp2_with fail
    go_ret
    exact ⟨rfl, Below.refl _ _⟩
  · obtain ⟨i0, hi, hz0, hz1, hz2⟩ := info_parts info5
    have hin : (Tryd.prog.info? 5).map (·.size) = some 1 := by rw [hi]; simp [hz1]
    have hce : Tryd.prog.cellsOf 5 = 1 := by simp [Program.cellsOf, hi, hz1]
    have hne : s.data.toList ≠ [] := by
      intro e
      apply h0
      rw [← Om.len_eq, ByteArray.toList_eq, e]; rfl
    have hsl : s.data.toList.length = s.size := by rw [← ByteArray.toList_eq, Om.len_eq]
    obtain ⟨Z, hZ⟩ : ∃ Z, Z = madeCells (Value.int .u8 0).cells (((s.size : Nat) : Int).toNat * i0.size) := ⟨_, rfl⟩
    have hZs : Z.size = s.size := by rw [hZ, size_madeCells, hz1]; simp
    have mk : ∀ W : World, (Instr.makeSlice 92 (.int .i64 (s.size : Int)) (.int .i64 (s.size : Int))).run Tryd.prog W = .ok (.slice (some ⟨W.heap.size, 0, none⟩) s.size s.size) (W.alloc (.cells Z 5)) := by
      intro W
      have h := run_make (P := Tryd.prog) W 92 5 i0 (.int .u8 0) Tryd.underlying92 hi hz0 .i64 .i64 (s.size : Int) (s.size : Int) (by omega) (by omega) (by rw [hz2]; omega) (by omega)
      rw [← hZ] at h
      simpa using h
    obtain ⟨Y, hY⟩ : ∃ Y, Y = (Z.toList.take 0 ++ Lib.byteCells s.data.toList ++ Z.toList.drop (0 + s.size)).toArray := ⟨_, rfl⟩
    have cp := Lib.run_copy_row_string (P := Tryd.prog) (w.alloc (.cells Z 5)) 92 9 3 5 w.heap.size 0 s.size s.size s Z 5 Tryd.underlying92 hin (heap_alloc_new w _) (Nat.le_refl _) (by omega)
    rw [← hY] at cp
    have hYl : Y.toList = Lib.byteCells s.data.toList := by
      rw [hY, List.toList_toArray, List.take_zero, List.nil_append, List.drop_of_length_le (by rw [Array.length_toList]; omega), List.append_nil]
    have hYs : Y.size = s.size := by rw [← Array.length_toList, hYl, Lib.byteCells_length, hsl]
    have hb : ((w.alloc (.cells Z 5)).setRow w.heap.size Y).heap[w.heap.size]? = some (.cells Y 5 (0, 0)) := setRow_heap _ _ Z _ 5 (0, 0) (heap_alloc_new w _)
    have us := Lib.run_unsafeString_row (P := Tryd.prog) ((w.alloc (.cells Z 5)).setRow w.heap.size Y) 147 3 9 5 Tryd.underlying147 hce w.heap.size Y.size (by unfold World.shape?; rw [hb]) s.data.toList hne (by omega) (by omega) (by
      intro j x hx
      rw [addr_zero]
      refine cell_of hb ?_
      rw [← Array.getElem?_toList, hYl]
      simp [Lib.byteCells, hx])
    rw [hsl] at us
    have HBE : Hid (Below w.heap.size w ((w.alloc (.cells Z 5)).setRow w.heap.size Y)) :=
      ((Below.refl _ w).alloc (Nat.le_refl _) _).trans ⟨rfl, rfl, rfl, by simp, fun k hk => setRow_other _ _ _ _ (by omega)⟩
    have hsz : (s.size : Int) ≤ 255 := by omega
    have h0b : ((s.size : Int) == 0) = false := by simpa using h0
    have h0p : 0 < s.size := by omega
    have h0z : (0 : Int) < s.size := by omega
    clear hY hZ hb hYl hne hsl h0
    go_enter Tryd.func86, Tryd.ntmps86
    go_wp2_with fail
    go_ret
    exact ⟨rfl, Lib.below_freeze HBE.out (p := ⟨w.heap.size, 0, none⟩) (Nat.le_refl _) _⟩
theorem clone_any (s : ByteArray) (w : World) (hs : s.size ≤ 255) :
    Calls Tryd.prog 77 #[.string s] w fun e w' => e = .returned (.string s) ∧ Below w.heap.size w w' := by
  have C := lite_any s w hs
  go_enter Tryd.func77, Tryd.ntmps77
  go_wp2_with fail
  refine C.mono ?_
  rintro e w2 ⟨rfl, hb⟩
  have HB : Hid (Below w.heap.size w w2) := hb
  clear hb C
  go_wp2_with fail
  go_ret
  exact ⟨rfl, HB.out⟩

end Vh
end Go.Proofs.YtcmoajlcmeimiaaDoor
