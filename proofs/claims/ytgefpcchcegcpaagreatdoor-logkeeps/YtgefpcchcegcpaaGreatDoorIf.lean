/- What copyOp answers: an op whose list of dots is its own. -/
import Derived.Test.YtgefpcchcegcpaaGreatDoorIe
import Derived.OwnWalk
namespace Go.Proofs.YtgefpcchcegcpaaGreatDoor
namespace If
set_option linter.unusedVariables false
open Go.ChangeShapes Go.WideShapes Go.ChangeAt Go.RowKit Cm Ka Kb Na Om Oa Oz Oc Og Oi Hm Ia Ib Ic Idc Ie
open La (bel bel_drew errV_zero errV_ne own_ge own_grow own_below Lies)

theorem dots_flat {w : World} {b o : Nat} {s : List Dt} (h : ∀ j, j < s.length → DAt w b o j (s.getD j noneD)) : ∀ i u, (flatD s)[i]? = some u → w.cell? ⟨b, o + i, none⟩ = some u := by
  intro i u hu
  have hi : i < (flatD s).length := (List.getElem?_eq_some_iff.1 hu).1
  rw [flatD_length] at hi
  obtain ⟨q, r, hr, e⟩ : ∃ q r, r < 2 ∧ i = q * 2 + r := ⟨i / 2, i % 2, by omega, by omega⟩
  have hq : q < s.length := by omega
  obtain ⟨f1, f2⟩ := flatD_at hq
  obtain ⟨g1, g2⟩ := h q hq
  have h2 : r = 0 ∨ r = 1 := by omega
  rcases h2 with rfl | rfl
  · rw [Nat.add_zero] at e
    subst e
    rw [f1] at hu; injection hu with hu; rw [← hu]; exact g1
  · subst e
    rw [f2] at hu; injection hu with hu; rw [← hu, ← Nat.add_assoc]; exact g2

theorem load_op {W : World} {g : Nat} {x0 x1 x2 x4 : Int} {x3 : ByteArray} {x5 : Value} (h : W.heap[g]? = some (.cells #[.int .i64 x0, .int .i64 x1, .int .i64 x2, .string x3, .int .i64 x4, x5] 34)) :
    (loadVar 34 ⟨g, 0, none⟩).run Tryz.prog W = .ok (.agg #[.int .i64 x0, .int .i64 x1, .int .i64 x2, .string x3, .int .i64 x4, x5]) W := by
  have c0 := blk_cell h (i := 0) (u := .int .i64 x0) rfl
  have c1 := blk_cell h (i := 1) (u := .int .i64 x1) rfl
  have c2 := blk_cell h (i := 2) (u := .int .i64 x2) rfl
  have c3 := blk_cell h (i := 3) (u := .string x3) rfl
  have c4 := blk_cell h (i := 4) (u := .int .i64 x4) rfl
  have c5 := blk_cell h (i := 5) (u := x5) rfl
  have u1 := Tryz.isAgg34
  have u2 := Tryz.sizeOf34
  go_simp

def opW (w : World) (a b t : Int) (p : ByteArray) (c : Int) (vs : Value) : World := (w.alloc (.cells #[.int .i64 a, .int .i64 b, .int .i64 t, .string p, .int .i64 c, vs] 34)).alloc (.cells #[.int .i64 0, .int .i64 0, .int .i64 0, .string ⟨#[]⟩, .int .i64 0, .slice none 0 0] 34)
theorem opW_facts (w : World) (a b t : Int) (p : ByteArray) (c : Int) (vs : Value) : (opW w a b t p c vs).heap[w.heap.size]? = some (.cells #[.int .i64 a, .int .i64 b, .int .i64 t, .string p, .int .i64 c, vs] 34) ∧ (opW w a b t p c vs).heap[w.heap.size + 1]? = some (.cells #[.int .i64 0, .int .i64 0, .int .i64 0, .string ⟨#[]⟩, .int .i64 0, .slice none 0 0] 34) ∧ Below w.heap.size w (opW w a b t p c vs) ∧ (opW w a b t p c vs).heap.size = w.heap.size + 2 := by
  unfold opW
  refine ⟨?_, ?_, ((Below.refl _ w).alloc (Nat.le_refl _) _).alloc (by simp) _, by simp⟩
  · have := heap_alloc_old (w.alloc (.cells #[.int .i64 a, .int .i64 b, .int .i64 t, .string p, .int .i64 c, vs] 34)) (.cells #[.int .i64 0, .int .i64 0, .int .i64 0, .string ⟨#[]⟩, .int .i64 0, .slice none 0 0] 34) (show w.heap.size < _ by simp)
    exact this.trans (heap_alloc_new w _)
  · have := heap_alloc_new (w.alloc (.cells #[.int .i64 a, .int .i64 b, .int .i64 t, .string p, .int .i64 c, vs] 34)) (.cells #[.int .i64 0, .int .i64 0, .int .i64 0, .string ⟨#[]⟩, .int .i64 0, .slice none 0 0] 34)
    rwa [show (w.alloc (.cells #[.int .i64 a, .int .i64 b, .int .i64 t, .string p, .int .i64 c, vs] 34)).heap.size = w.heap.size + 1 by simp] at this

set_option maxRecDepth 100000 in
set_option maxHeartbeats 2000000 in
theorem copy_some (a b t : Int) (p : ByteArray) (c : Int) (ad : Addr) (n cc : Nat) (s : List Dt) (w : World) (h : DtsAt w (.slice (some ad) n cc) s) (hs : s.length ≤ 1048576) :
    Calls Tryz.prog 43 #[.agg #[.int .i64 a, .int .i64 b, .int .i64 t, .string p, .int .i64 c, .slice (some ad) n cc]] w fun e w' => ∃ v', e = .returned (.agg #[.int .i64 a, .int .i64 b, .int .i64 t, .string p, .int .i64 c, v']) ∧ w'.ownsRow w.heap.size 31 2 v' s.length (flatD s) ∧ Below w.heap.size w w' := by
  obtain ⟨i0, hi, hz0, hz1, hz2⟩ := info_parts Oi.infoD
  obtain ⟨q0, q1, qb, qz⟩ := opW_facts w a b t p c (.slice (some ad) n cc)
  have hd := h.below qb
  obtain ⟨q, c2, hv, hin, hc1, hc2, hc3⟩ := hd
  injection hv with e1 e2 e3
  subst e1 e3
  have hn : s.length = n := e2.symm
  have HCE : Hid (∀ j u, (flatD s)[j]? = some u → (opW w a b t p c (.slice (some ad) n cc)).cell? (ad.add j) = some u) := by
    intro j u hu
    rcases hin with e0 | ⟨bb, oo, hp, hcs⟩
    · rw [e0] at hu; simp [flatD] at hu
    · injection hp with hp
      have ha : ad.add j = ⟨bb, oo + j, none⟩ := by rw [hp, Addr.add_lit]
      rw [ha]
      exact dots_flat hcs j u hu
  have HN : Hid (s.length = n) := hn
  have HFL : Hid ((flatD s).length = n * 2) := by unfold Hid; rw [flatD_length, hn]
  have hnn : n ≤ 1048576 := by omega
  have HQ : Hid (Below w.heap.size w (opW w a b t p c (.slice (some ad) n cc))) := qb
  have HQ0 : Hid ((opW w a b t p c (.slice (some ad) n cc)).heap[w.heap.size]? = some (.cells #[.int .i64 a, .int .i64 b, .int .i64 t, .string p, .int .i64 c, (.slice (some ad) n cc)] 34) ∧ (opW w a b t p c (.slice (some ad) n cc)).heap[w.heap.size + 1]? = some (.cells #[.int .i64 0, .int .i64 0, .int .i64 0, .string ⟨#[]⟩, .int .i64 0, .slice none 0 0] 34)) := ⟨q0, q1⟩
  have HQZ : Hid ((opW w a b t p c (.slice (some ad) n cc)).heap.size = w.heap.size + 2) := qz
  clear q0 q1 qb qz hin hc1 hc2 hc3 e2 h hs hn
  unfold opW at HCE HQ HQ0 HQZ
  go_enter Tryz.func43, Tryz.ntmps43
  go_wp2_with (at_builtin; refine wpList_append_own_at _ rfl (.const (.slice none 0 0)) (.tmp 4) 32 rfl w.heap.size 31 i0 (.agg #[.int .i64 0, .int .i64 0]) 2 16 Tryz.underlying32 hi hz0 hz1 hz2 rfl (by decide) (.slice none 0 0) 0 [] rfl (World.ownsRow_nil _ _ _ _) ad n cc (flatD s) rfl HFL.out HCE.out (flatD_one s) (by unfold maxLen; omega) (by omega) HQ.out.size ?_; intro v9 w9 hown9 hgrow9 _ hat9; have HO9 : Hid (w9.ownsRow w.heap.size 31 2 v9 n (flatD s)) := (by have := hown9; rw [Nat.zero_add, List.nil_append] at this; exact this); obtain ⟨p9, n9, c9, rfl, _⟩ := own_shape hown9; have g0 := (hgrow9.block w.heap.size (by rw [HQZ.out]; omega) (by intro e; cases e)).trans HQ0.out.1; have g1 := (hgrow9.block (w.heap.size + 1) (by rw [HQZ.out]; omega) (by intro e; cases e)).trans HQ0.out.2; have HB9 : Hid (Below w.heap.size w w9) := HQ.out.grown hgrow9 HQ.out.size (by intro j hj; cases hj); have HG9 : Hid (∀ k, (Value.slice p9 n9 c9).ownBlock = some k → k ≠ w.heap.size ∧ k ≠ w.heap.size + 1) := (by intro k hk; rcases hat9 with e9 | e9; (rw [hk] at e9; cases e9); (rw [hk, HQZ.out] at e9; injection e9 with e9; omega)); have c0 := blk_cell g0 (i := 0) rfl; have c1 := blk_cell g0 (i := 1) rfl; have c2 := blk_cell g0 (i := 2) rfl; have c3 := blk_cell g0 (i := 3) rfl; have c4 := blk_cell g0 (i := 4) rfl; have c5 := blk_cell g0 (i := 5) rfl; have z0 := blk_cell g1 (i := 0) rfl; have z1 := blk_cell g1 (i := 1) rfl; have z2 := blk_cell g1 (i := 2) rfl; have z3 := blk_cell g1 (i := 3) rfl; have z4 := blk_cell g1 (i := 4) rfl; have z5 := blk_cell g1 (i := 5) rfl; have f5 := blk_free g0 (i := 5); have y0 := blk_free g1 (i := 0); have y1 := blk_free g1 (i := 1); have y2 := blk_free g1 (i := 2); have y3 := blk_free g1 (i := 3); have y4 := blk_free g1 (i := 4); have y5 := blk_free g1 (i := 5); have HG1 : Hid (w9.heap[w.heap.size + 1]? = some (.cells #[.int .i64 0, .int .i64 0, .int .i64 0, .string ⟨#[]⟩, .int .i64 0, .slice none 0 0] 34)) := g1; clear hown9 hgrow9 hat9 g0 g1)
  (try simp only [Exit.inBlock, Exit.then])
  have HW : Hid ((((((((w9.setCell ⟨w.heap.size, 5, none⟩ (.slice p9 n9 c9)).setCell ⟨w.heap.size + 1, 0, none⟩ (.int .i64 a)).setCell ⟨w.heap.size + 1, 1, none⟩ (.int .i64 b)).setCell ⟨w.heap.size + 1, 2, none⟩ (.int .i64 t)).setCell ⟨w.heap.size + 1, 3, none⟩ (.string p)).setCell ⟨w.heap.size + 1, 4, none⟩ (.int .i64 c)).setCell ⟨w.heap.size + 1, 5, none⟩ (.slice p9 n9 c9)).heap[w.heap.size + 1]? = some (.cells #[.int .i64 a, .int .i64 b, .int .i64 t, .string p, .int .i64 c, .slice p9 n9 c9] 34)) := by
    unfold Hid
    rw [set_heap (set_heap (set_heap (set_heap (set_heap (set_heap ((set_block _ _ _ _ (by simp)).trans HG1.out))))))]; rfl
  have HWB : Hid (Below w.heap.size w (((((((w9.setCell ⟨w.heap.size, 5, none⟩ (.slice p9 n9 c9)).setCell ⟨w.heap.size + 1, 0, none⟩ (.int .i64 a)).setCell ⟨w.heap.size + 1, 1, none⟩ (.int .i64 b)).setCell ⟨w.heap.size + 1, 2, none⟩ (.int .i64 t)).setCell ⟨w.heap.size + 1, 3, none⟩ (.string p)).setCell ⟨w.heap.size + 1, 4, none⟩ (.int .i64 c)).setCell ⟨w.heap.size + 1, 5, none⟩ (.slice p9 n9 c9))) :=
    ((((((HB9.out.setCell (p := ⟨w.heap.size, 5, none⟩) (by simp) _).setCell (p := ⟨w.heap.size + 1, 0, none⟩) (by simp) _).setCell (p := ⟨w.heap.size + 1, 1, none⟩) (by simp) _).setCell (p := ⟨w.heap.size + 1, 2, none⟩) (by simp) _).setCell (p := ⟨w.heap.size + 1, 3, none⟩) (by simp) _).setCell (p := ⟨w.heap.size + 1, 4, none⟩) (by simp) _).setCell (p := ⟨w.heap.size + 1, 5, none⟩) (by simp) _
  have HWO : Hid ((((((((w9.setCell ⟨w.heap.size, 5, none⟩ (.slice p9 n9 c9)).setCell ⟨w.heap.size + 1, 0, none⟩ (.int .i64 a)).setCell ⟨w.heap.size + 1, 1, none⟩ (.int .i64 b)).setCell ⟨w.heap.size + 1, 2, none⟩ (.int .i64 t)).setCell ⟨w.heap.size + 1, 3, none⟩ (.string p)).setCell ⟨w.heap.size + 1, 4, none⟩ (.int .i64 c)).setCell ⟨w.heap.size + 1, 5, none⟩ (.slice p9 n9 c9)).ownsRow w.heap.size 31 2 (.slice p9 n9 c9) s.length (flatD s)) := by
    unfold Hid
    rw [HN.out]
    refine own_stay HO9.out fun g hg => ?_
    obtain ⟨x1, x2⟩ := HG9.out g hg
    rw [set_block _ _ _ _ (by simpa using x2), set_block _ _ _ _ (by simpa using x2), set_block _ _ _ _ (by simpa using x2), set_block _ _ _ _ (by simpa using x2), set_block _ _ _ _ (by simpa using x2), set_block _ _ _ _ (by simpa using x2), set_block _ _ _ _ (by simpa using x1)]
  generalize hWq : ((((((w9.setCell ⟨w.heap.size, 5, none⟩ (.slice p9 n9 c9)).setCell ⟨w.heap.size + 1, 0, none⟩ (.int .i64 a)).setCell ⟨w.heap.size + 1, 1, none⟩ (.int .i64 b)).setCell ⟨w.heap.size + 1, 2, none⟩ (.int .i64 t)).setCell ⟨w.heap.size + 1, 3, none⟩ (.string p)).setCell ⟨w.heap.size + 1, 4, none⟩ (.int .i64 c)).setCell ⟨w.heap.size + 1, 5, none⟩ (.slice p9 n9 c9) = W at HW HWB HWO ⊢
  clear hWq c0 c1 c2 c3 c4 c5 z0 z1 z2 z3 z4 z5 f5 y0 y1 y2 y3 y4 y5 HCE HQ HQ0 HQZ HO9 HB9 HG9 HG1
  refine bodyPost_ret (v := .agg #[.int .i64 a, .int .i64 b, .int .i64 t, .string p, .int .i64 c, .slice p9 n9 c9]) ?_ rfl ?_
  · simp [results]
    rw [show (asAddr (Value.pointer (some ⟨w.heap.size + 1, 0, none⟩))).run Tryz.prog W = .ok ⟨w.heap.size + 1, 0, none⟩ W from rfl]
    exact load_op HW.out
  · exact ⟨_, rfl, HWO.out, HWB.out⟩

theorem append_none (ty : TypeId) (w : World) : (Builtin.append_ #[32, 32] ty #[.slice none 0 0, .slice none 0 0]).run Tryz.prog w = .ok (.slice none 0 0) w := by kernel_rfl
theorem wpList_append_none (w : World) {ops : Array Oper} {rest : List Oper} {o : Oper} {a : Act} {Q : Exit → Act → World → Prop} (hg : o.guard = none) (x y : Operand) (hop : o.op = .call { callee := .builtin .append, args := #[x, y], argTypes := #[32, 32] }) (hx : a.eval x = .slice none 0 0) (hy : a.eval y = .slice none 0 0)
    (hK : ∀ w', w' = w → wpList Tryz.prog ops Q rest (a.put o.dst (.slice none 0 0)) w') : wpList Tryz.prog ops Q (o :: rest) a w := by
  refine wpList_plain hg fun K' hK' => ?_
  unfold Oper.wp execOp
  simp only [hop, resolve, invoke, builtin, Sem.run_bind, Sem.run_pure, Result.andThen_ok, List.map_toArray, List.map_cons, List.map_nil, hx, hy, append_none]
  exact hK' _ _ (hK w rfl)
set_option maxRecDepth 100000 in
set_option maxHeartbeats 2000000 in
theorem copy_none (a b t : Int) (p : ByteArray) (c : Int) (w : World) :
    Calls Tryz.prog 43 #[.agg #[.int .i64 a, .int .i64 b, .int .i64 t, .string p, .int .i64 c, .slice none 0 0]] w fun e w' => e = .returned (.agg #[.int .i64 a, .int .i64 b, .int .i64 t, .string p, .int .i64 c, .slice none 0 0]) ∧ Below w.heap.size w w' := by
  obtain ⟨q0, q1, qb, qz⟩ := opW_facts w a b t p c (.slice none 0 0)
  have HQ0 : Hid ((opW w a b t p c (.slice none 0 0)).heap[w.heap.size]? = some (.cells #[.int .i64 a, .int .i64 b, .int .i64 t, .string p, .int .i64 c, (.slice none 0 0)] 34) ∧ (opW w a b t p c (.slice none 0 0)).heap[w.heap.size + 1]? = some (.cells #[.int .i64 0, .int .i64 0, .int .i64 0, .string ⟨#[]⟩, .int .i64 0, .slice none 0 0] 34)) := ⟨q0, q1⟩
  have HQ : Hid (Below w.heap.size w (opW w a b t p c (.slice none 0 0))) := qb
  clear q0 q1 qb qz
  unfold opW at HQ HQ0
  go_enter Tryz.func43, Tryz.ntmps43
  go_wp2_with (at_builtin; refine wpList_append_none _ rfl (.const (.slice none 0 0)) (.tmp 4) rfl rfl rfl ?_; intro w9 hw9; have g0 := HQ0.out.1; have g1 := HQ0.out.2; have HB9 : Hid (Below w.heap.size w w9) := (by rw [hw9]; exact HQ.out); rw [← hw9] at g0 g1; have HG1 : Hid (w9.heap[w.heap.size + 1]? = some (.cells #[.int .i64 0, .int .i64 0, .int .i64 0, .string ⟨#[]⟩, .int .i64 0, .slice none 0 0] 34)) := g1; have c0 := blk_cell g0 (i := 0) rfl; have c1 := blk_cell g0 (i := 1) rfl; have c2 := blk_cell g0 (i := 2) rfl; have c3 := blk_cell g0 (i := 3) rfl; have c4 := blk_cell g0 (i := 4) rfl; have c5 := blk_cell g0 (i := 5) rfl; have z0 := blk_cell g1 (i := 0) rfl; have z1 := blk_cell g1 (i := 1) rfl; have z2 := blk_cell g1 (i := 2) rfl; have z3 := blk_cell g1 (i := 3) rfl; have z4 := blk_cell g1 (i := 4) rfl; have z5 := blk_cell g1 (i := 5) rfl; have f5 := blk_free g0 (i := 5); have y0 := blk_free g1 (i := 0); have y1 := blk_free g1 (i := 1); have y2 := blk_free g1 (i := 2); have y3 := blk_free g1 (i := 3); have y4 := blk_free g1 (i := 4); have y5 := blk_free g1 (i := 5); clear g0 g1 hw9)
  (try simp only [Exit.inBlock, Exit.then])
  have HW : Hid ((((((((w9.setCell ⟨w.heap.size, 5, none⟩ (.slice none 0 0)).setCell ⟨w.heap.size + 1, 0, none⟩ (.int .i64 a)).setCell ⟨w.heap.size + 1, 1, none⟩ (.int .i64 b)).setCell ⟨w.heap.size + 1, 2, none⟩ (.int .i64 t)).setCell ⟨w.heap.size + 1, 3, none⟩ (.string p)).setCell ⟨w.heap.size + 1, 4, none⟩ (.int .i64 c)).setCell ⟨w.heap.size + 1, 5, none⟩ (.slice none 0 0)).heap[w.heap.size + 1]? = some (.cells #[.int .i64 a, .int .i64 b, .int .i64 t, .string p, .int .i64 c, .slice none 0 0] 34)) := by
    unfold Hid
    rw [set_heap (set_heap (set_heap (set_heap (set_heap (set_heap ((set_block _ _ _ _ (by simp)).trans HG1.out))))))]; rfl
  have HWB : Hid (Below w.heap.size w (((((((w9.setCell ⟨w.heap.size, 5, none⟩ (.slice none 0 0)).setCell ⟨w.heap.size + 1, 0, none⟩ (.int .i64 a)).setCell ⟨w.heap.size + 1, 1, none⟩ (.int .i64 b)).setCell ⟨w.heap.size + 1, 2, none⟩ (.int .i64 t)).setCell ⟨w.heap.size + 1, 3, none⟩ (.string p)).setCell ⟨w.heap.size + 1, 4, none⟩ (.int .i64 c)).setCell ⟨w.heap.size + 1, 5, none⟩ (.slice none 0 0))) :=
    ((((((HB9.out.setCell (p := ⟨w.heap.size, 5, none⟩) (by simp) _).setCell (p := ⟨w.heap.size + 1, 0, none⟩) (by simp) _).setCell (p := ⟨w.heap.size + 1, 1, none⟩) (by simp) _).setCell (p := ⟨w.heap.size + 1, 2, none⟩) (by simp) _).setCell (p := ⟨w.heap.size + 1, 3, none⟩) (by simp) _).setCell (p := ⟨w.heap.size + 1, 4, none⟩) (by simp) _).setCell (p := ⟨w.heap.size + 1, 5, none⟩) (by simp) _
  generalize hWq : ((((((w9.setCell ⟨w.heap.size, 5, none⟩ (.slice none 0 0)).setCell ⟨w.heap.size + 1, 0, none⟩ (.int .i64 a)).setCell ⟨w.heap.size + 1, 1, none⟩ (.int .i64 b)).setCell ⟨w.heap.size + 1, 2, none⟩ (.int .i64 t)).setCell ⟨w.heap.size + 1, 3, none⟩ (.string p)).setCell ⟨w.heap.size + 1, 4, none⟩ (.int .i64 c)).setCell ⟨w.heap.size + 1, 5, none⟩ (.slice none 0 0) = W at HW HWB ⊢
  clear hWq c0 c1 c2 c3 c4 c5 z0 z1 z2 z3 z4 z5 f5 y0 y1 y2 y3 y4 y5 HQ HQ0 HB9 HG1
  refine bodyPost_ret (v := .agg #[.int .i64 a, .int .i64 b, .int .i64 t, .string p, .int .i64 c, .slice none 0 0]) ?_ rfl ?_
  · simp [results]
    rw [show ∀ W, (asAddr (Value.pointer (some ⟨w.heap.size + 1, 0, none⟩))).run Tryz.prog W = .ok ⟨w.heap.size + 1, 0, none⟩ W from fun _ => rfl]
    exact load_op HW.out
  · exact ⟨rfl, HWB.out⟩
/- an op whose dots lie in memory, copied -/
theorem copy_any (a b t : Int) (p : ByteArray) (c : Int) (vs : Value) (s : List Dt) (w : World) (h : DtsAt w vs s) (hs : s.length ≤ 1048576) :
    Calls Tryz.prog 43 #[.agg #[.int .i64 a, .int .i64 b, .int .i64 t, .string p, .int .i64 c, vs]] w fun e w' => ∃ v', e = .returned (.agg #[.int .i64 a, .int .i64 b, .int .i64 t, .string p, .int .i64 c, v']) ∧ w'.ownsRow w.heap.size 31 2 v' s.length (flatD s) ∧ Below w.heap.size w w' := by
  have h2 := h
  obtain ⟨q, c2, rfl, hin, h1, h3, h4⟩ := h2
  cases q with
  | none =>
    have hc := h4 rfl
    have hl : s = [] := List.eq_nil_of_length_eq_zero (by omega)
    subst hl hc
    refine (copy_none a b t p c w).mono ?_
    rintro e w' ⟨rfl, hb⟩
    exact ⟨_, rfl, World.ownsRow_nil _ _ _ _, hb⟩
  | some ad => exact copy_some a b t p c ad _ c2 s w h hs

end If
end Go.Proofs.YtgefpcchcegcpaaGreatDoor
