/- What next answers: of those that wait the op of the least author which is next. -/
import Derived.Test.YtnniggjeadlbgaaGreatDoorJe
namespace Go.Proofs.YtnniggjeadlbgaaGreatDoor
namespace Jf
set_option linter.unusedVariables false
set_option linter.unusedSimpArgs false
open Go.ChangeShapes Go.WideShapes Go.ChangeAt Go.RowKit Cm Ka Kb Na Om Oa Oz Oc Og Oi Hm Ia Ic Idc Ie If Ig Ii Ij Ik Il Im Ja Jb Je
open La (bel bel_drew errV_zero errV_ne own_ge own_grow own_below Lies)

theorem known_few {S : Dq} (I : Inv S) (k : Nat) (hk : k < 8) : 0 ≤ S.known.getD k 0 ∧ S.known.getD k 0 ≤ 400 ∧ S.known.getD k 0 = kn S ((k : Int) + 1) := by
  have e : S.known.getD k 0 = kn S ((k : Int) + 1) := by
    unfold kn
    rw [show ((k : Int) + 1 - 1).toNat = k by omega]
  rw [e, I.kno _ (by omega) (by omega)]
  have h1 := List.length_filter_le (fun o => decide (o.1.1 = (k : Int) + 1)) S.ops
  have h2 := I.few
  exact ⟨by omega, by omega, rfl⟩
theorem next_step {S : Dq} {L : List Ox} {k : Nat} (hk : k < 8) (h : dotIn L ((k : Int) + 1, kn S ((k : Int) + 1) + 1) = none) : nextAt S L (8 - k) k = nextAt S L (8 - (k + 1)) (k + 1) := by
  rw [show 8 - k = (8 - (k + 1)) + 1 by omega]
  conv => lhs; unfold nextAt
  rw [h]
theorem next_hit {S : Dq} {L : List Ox} {k : Nat} {o : Ox} (hk : k < 8) (h : dotIn L ((k : Int) + 1, kn S ((k : Int) + 1) + 1) = some o) : nextAt S L (8 - k) k = some o := by
  rw [show 8 - k = (8 - (k + 1)) + 1 by omega]
  unfold nextAt
  rw [h]
def NextPost (w : World) (S : Dq) (M : List Wx) (e : Ending) (w' : World) : Prop :=
  ((∃ x v, (x, v) ∈ M ∧ nextO S (M.map (·.1)) = some x ∧ e = .returned (.tuple #[opV x v, .bool true])) ∨ (nextO S (M.map (·.1)) = none ∧ e = .returned (.tuple #[opZ, .bool false]))) ∧ Below w.heap.size w w'

theorem six_put {W : World} {g : Nat} {z0 z1 z2 z3 z4 z5 : Value} (h : W.heap[g]? = some (.cells #[z0, z1, z2, z3, z4, z5] 33)) (a b t : Int) (p : ByteArray) (c : Int) (v : Value) : ((((((W.setCell ⟨g, 0, none⟩ (.int .i64 a)).setCell ⟨g, 1, none⟩ (.int .i64 b)).setCell ⟨g, 2, none⟩ (.int .i64 t)).setCell ⟨g, 3, none⟩ (.string p)).setCell ⟨g, 4, none⟩ (.int .i64 c)).setCell ⟨g, 5, none⟩ (v)).heap[g]? = some (.cells #[.int .i64 a, .int .i64 b, .int .i64 t, .string p, .int .i64 c, v] 33) := by
  rw [set_heap (set_heap (set_heap (set_heap (set_heap (set_heap h)))))]; rfl
theorem six_below {B g : Nat} {w0 W : World} (h : Below B w0 W) (hg : B ≤ g) (a b t : Int) (p : ByteArray) (c : Int) (v : Value) : Below B w0 ((((((W.setCell ⟨g, 0, none⟩ (.int .i64 a)).setCell ⟨g, 1, none⟩ (.int .i64 b)).setCell ⟨g, 2, none⟩ (.int .i64 t)).setCell ⟨g, 3, none⟩ (.string p)).setCell ⟨g, 4, none⟩ (.int .i64 c)).setCell ⟨g, 5, none⟩ (v)) :=
  (((((h.setCell (p := ⟨g, 0, none⟩) hg _).setCell (p := ⟨g, 1, none⟩) hg _).setCell (p := ⟨g, 2, none⟩) hg _).setCell (p := ⟨g, 3, none⟩) hg _).setCell (p := ⟨g, 4, none⟩) hg _).setCell (p := ⟨g, 5, none⟩) hg _
theorem free_lift {w W : World} {g q : Nat} {cur : Array Value} {T : TypeId} (h : w.heap[g]? = some (.cells cur T)) (hb : Below w.heap.size w W) : W.frozen? ⟨g, q, none⟩ = false := blk_free ((hb.block g (Array.getElem?_eq_some_iff.1 h).1).trans h)

set_option maxRecDepth 100000 in
set_option maxHeartbeats 4000000 in
theorem next_any (B D MB : Nat) (S : Dq) (M : List Wx) (F G : Nat → Prop) (w : World) (h : BufMem w B D MB S M F G) :
    Calls Tryz.prog 115 #[.pointer (some ⟨B, 0, none⟩)] w (NextPost w S M) := by
  have hb1 : Below w.heap.size w (w.alloc (.cells #[.int .i64 0, .int .i64 0, .int .i64 0, .string ⟨#[]⟩, .int .i64 0, .slice none 0 0] 33)) := (Below.refl _ w).alloc (Nat.le_refl _) _
  have h1 := h.below hb1
  have c0 := blk_cell h1.blk (i := 0) (u := .pointer (some ⟨D, 0, none⟩)) rfl
  have HZ : Hid ((w.alloc (.cells #[.int .i64 0, .int .i64 0, .int .i64 0, .string ⟨#[]⟩, .int .i64 0, .slice none 0 0] 33)).heap[w.heap.size]? = some (.cells #[.int .i64 0, .int .i64 0, .int .i64 0, .string ⟨#[]⟩, .int .i64 0, .slice none 0 0] 33)) := heap_alloc_new w _
  have CK := known_get D S F _ h1.doc
  have HI : Hid (Inv S) := h1.doc.inv
  have HM1 : Hid (BufMem (w.alloc (.cells #[.int .i64 0, .int .i64 0, .int .i64 0, .string ⟨#[]⟩, .int .i64 0, .slice none 0 0] 33)) B D MB S M F G) := h1
  have HB1 : Hid (Below w.heap.size w (w.alloc (.cells #[.int .i64 0, .int .i64 0, .int .i64 0, .string ⟨#[]⟩, .int .i64 0, .slice none 0 0] 33))) := hb1
  clear h h1 hb1
  go_enter Tryz.func115, Tryz.ntmps115
  go_wp2_with fail
  refine CK.mono ?_
  rintro e w2 ⟨v2, rfl, ⟨p2, k2, rfl, hi2⟩, _, hb2⟩
  have HL8 : Hid (S.known.length = 8) := HI.out.klen
  rw [HL8.out]
  obtain ⟨bk, ok, rfl, hcs⟩ := hi2.some (by intro e; have := HL8.out; rw [e] at this; simp at this)
  have HCS : Hid (∀ j, j < S.known.length → w2.cell? ⟨bk, ok + j, none⟩ = some (.int .i64 (S.known.getD j 0))) := hcs
  have HM2 : Hid (BufMem w2 B D MB S M F G) := HM1.out.below hb2
  have HB2 : Hid (Below w.heap.size w w2) := bel HB1.out hb2
  have HZ2 : Hid (w2.heap[w.heap.size]? = some (.cells #[.int .i64 0, .int .i64 0, .int .i64 0, .string ⟨#[]⟩, .int .i64 0, .slice none 0 0] 33)) := (hb2.block _ (Array.getElem?_eq_some_iff.1 HZ.out).1).trans HZ.out
  clear hi2 hcs hb2 CK c0 HM1 HB1 HZ
  go_wp2_with fail
  go_loopw [14] (fun vi wr => ∃ (k : Nat), k ≤ 8 ∧ vi = .int .i64 k ∧ Hid (nextAt S (M.map (·.1)) (8 - k) k = nextO S (M.map (·.1))) ∧ Hid (Below w2.heap.size w2 wr)) (fun vi _ => 8 - (intOf vi).toNat)
  case atStart => exact ⟨0, by omega, rfl, rfl, Below.refl _ _⟩
  case round =>
    obtain ⟨k, hk, rfl, HNX, HBk⟩ := hrel
    have HMk : Hid (BufMem wr B D MB S M F G) := HM2.out.below HBk.out
    have HZk : Hid (wr.heap[w.heap.size]? = some (.cells #[.int .i64 0, .int .i64 0, .int .i64 0, .string ⟨#[]⟩, .int .i64 0, .slice none 0 0] 33)) := (HBk.out.block _ (Array.getElem?_eq_some_iff.1 HZ2.out).1).trans HZ2.out
    by_cases hlt : k < 8
    · have hltz : (k : Int) < 8 := by omega
      have ck := cell_lift (HCS.out k (by rw [HL8.out]; exact hlt)) HBk.out
      obtain ⟨x, hx⟩ : ∃ x, x = S.known.getD k 0 := ⟨_, rfl⟩
      obtain ⟨f1, f2, f3⟩ := known_few HI.out k hlt
      rw [← hx] at ck f1 f2 f3
      have HX : Hid (x = kn S ((k : Int) + 1)) := f3
      have c1 := blk_cell HMk.out.blk (i := 1) (u := .map (some MB)) rfl
      clear hx f3
      cases hf : findW ((k : Int) + 1, x + 1) M with
      | none =>
        have l1 := look_none HMk.out.map hf
        have HF : Hid (dotIn (M.map (·.1)) ((k : Int) + 1, kn S ((k : Int) + 1) + 1) = none) := by unfold Hid; rw [← HX.out, ← find_dot, hf]; rfl
        have HBA : Hid (∀ O, Below w2.heap.size w2 (wr.alloc O)) := fun O => bel HBk.out (below_a wr O)
        clear hf
        go_wp2_with fail
        go_roundw
        case rel => exact ⟨k + 1, by omega, by go_num, by unfold Hid; rw [← next_step hlt HF.out]; exact HNX.out, HBA.out _⟩
        case measure => simp only [intOf]; omega
      | some r =>
        obtain ⟨i, ⟨⟨⟨a, b⟩, t, p, c, s⟩, v⟩⟩ := r
        have HMEM : Hid (((((a, b), t, p, c, s) : Ox), v) ∈ M) := (find_mem hf).1
        obtain ⟨q, c1, e9, _⟩ := (HMk.out.dts _ (find_mem hf).1).1
        simp only at e9
        obtain ⟨n1, hn1⟩ : ∃ n1, n1 = s.length := ⟨_, rfl⟩
        rw [← hn1] at e9
        subst e9
        have HF : Hid (nextO S (M.map (·.1)) = some ((a, b), t, p, c, s)) := by
          unfold Hid
          rw [← HNX.out]
          refine next_hit hlt ?_
          rw [← HX.out, ← find_dot, hf]; rfl
        have l1 := look_some HMk.out.map hf
        have z0 := fun O => cell_lift (blk_cell HZk.out (i := 0) (u := .int .i64 0) rfl) (below_a wr O)
        have y0 := fun O => free_lift (q := 0) HZk.out (below_a wr O)
        have z1 := fun O => cell_lift (blk_cell HZk.out (i := 1) (u := .int .i64 0) rfl) (below_a wr O)
        have y1 := fun O => free_lift (q := 1) HZk.out (below_a wr O)
        have z2 := fun O => cell_lift (blk_cell HZk.out (i := 2) (u := .int .i64 0) rfl) (below_a wr O)
        have y2 := fun O => free_lift (q := 2) HZk.out (below_a wr O)
        have z3 := fun O => cell_lift (blk_cell HZk.out (i := 3) (u := .string ⟨#[]⟩) rfl) (below_a wr O)
        have y3 := fun O => free_lift (q := 3) HZk.out (below_a wr O)
        have z4 := fun O => cell_lift (blk_cell HZk.out (i := 4) (u := .int .i64 0) rfl) (below_a wr O)
        have y4 := fun O => free_lift (q := 4) HZk.out (below_a wr O)
        have z5 := fun O => cell_lift (blk_cell HZk.out (i := 5) (u := .slice none 0 0) rfl) (below_a wr O)
        have y5 := fun O => free_lift (q := 5) HZk.out (below_a wr O)
        have HPUT := six_put ((below_a wr (.cells #[.int .i64 a, .int .i64 b, .int .i64 t, .string p, .int .i64 c, .slice q n1 c1] 33)).block _ (Array.getElem?_eq_some_iff.1 HZk.out).1 |>.trans HZk.out) a b t p c (.slice q n1 c1)
        have HPB := six_below (B := w.heap.size) (g := w.heap.size) (bel (bel HB2.out HBk.out) (below_a wr (.cells #[.int .i64 a, .int .i64 b, .int .i64 t, .string p, .int .i64 c, .slice q n1 c1] 33))) (Nat.le_refl _) a b t p c (.slice q n1 c1)
        have HW : Hid ((((((((wr.alloc (.cells #[.int .i64 a, .int .i64 b, .int .i64 t, .string p, .int .i64 c, .slice q n1 c1] 33)).setCell ⟨w.heap.size, 0, none⟩ (.int .i64 a)).setCell ⟨w.heap.size, 1, none⟩ (.int .i64 b)).setCell ⟨w.heap.size, 2, none⟩ (.int .i64 t)).setCell ⟨w.heap.size, 3, none⟩ (.string p)).setCell ⟨w.heap.size, 4, none⟩ (.int .i64 c)).setCell ⟨w.heap.size, 5, none⟩ (.slice q n1 c1)).heap[w.heap.size]? = some (.cells #[.int .i64 a, .int .i64 b, .int .i64 t, .string p, .int .i64 c, .slice q n1 c1] 33)) := HPUT
        have HWB : Hid (Below w.heap.size w (((((((wr.alloc (.cells #[.int .i64 a, .int .i64 b, .int .i64 t, .string p, .int .i64 c, .slice q n1 c1] 33)).setCell ⟨w.heap.size, 0, none⟩ (.int .i64 a)).setCell ⟨w.heap.size, 1, none⟩ (.int .i64 b)).setCell ⟨w.heap.size, 2, none⟩ (.int .i64 t)).setCell ⟨w.heap.size, 3, none⟩ (.string p)).setCell ⟨w.heap.size, 4, none⟩ (.int .i64 c)).setCell ⟨w.heap.size, 5, none⟩ (.slice q n1 c1))) := HPB
        clear hf hn1 HPUT HPB
        go_wp2_with fail
        (try simp only [Exit.inBlock, Exit.then])
        generalize hWq : (((((((wr.alloc (.cells #[.int .i64 a, .int .i64 b, .int .i64 t, .string p, .int .i64 c, .slice q n1 c1] 33)).setCell ⟨w.heap.size, 0, none⟩ (.int .i64 a)).setCell ⟨w.heap.size, 1, none⟩ (.int .i64 b)).setCell ⟨w.heap.size, 2, none⟩ (.int .i64 t)).setCell ⟨w.heap.size, 3, none⟩ (.string p)).setCell ⟨w.heap.size, 4, none⟩ (.int .i64 c)).setCell ⟨w.heap.size, 5, none⟩ (.slice q n1 c1)) = W at HW HWB ⊢
        clear hWq z0 z1 z2 z3 z4 z5 y0 y1 y2 y3 y4 y5 l1
        refine bodyPost_ret (v := .tuple #[.agg #[.int .i64 a, .int .i64 b, .int .i64 t, .string p, .int .i64 c, .slice q n1 c1], .bool true]) ?_ rfl ?_
        · simp [results]
          rw [show (asAddr (Value.pointer (some ⟨w.heap.size, 0, none⟩))).run Tryz.prog W = .ok ⟨w.heap.size, 0, none⟩ W from rfl]
          simp [load_op HW.out, Result.andThen]
        · exact ⟨Or.inl ⟨_, _, HMEM.out, HF.out, rfl⟩, HWB.out⟩
    · have hltz : ¬ (k : Int) < 8 := by omega
      obtain rfl : k = 8 := by omega
      have HF : Hid (nextO S (M.map (·.1)) = none) := HNX.out.symm
      have z0 := blk_cell HZk.out (i := 0) (u := .int .i64 0) rfl
      have y0 := blk_free HZk.out (i := 0)
      have z1 := blk_cell HZk.out (i := 1) (u := .int .i64 0) rfl
      have y1 := blk_free HZk.out (i := 1)
      have z2 := blk_cell HZk.out (i := 2) (u := .int .i64 0) rfl
      have y2 := blk_free HZk.out (i := 2)
      have z3 := blk_cell HZk.out (i := 3) (u := .string ⟨#[]⟩) rfl
      have y3 := blk_free HZk.out (i := 3)
      have z4 := blk_cell HZk.out (i := 4) (u := .int .i64 0) rfl
      have y4 := blk_free HZk.out (i := 4)
      have z5 := blk_cell HZk.out (i := 5) (u := .slice none 0 0) rfl
      have y5 := blk_free HZk.out (i := 5)
      have HW : Hid (((((((wr.setCell ⟨w.heap.size, 0, none⟩ (.int .i64 0)).setCell ⟨w.heap.size, 1, none⟩ (.int .i64 0)).setCell ⟨w.heap.size, 2, none⟩ (.int .i64 0)).setCell ⟨w.heap.size, 3, none⟩ (.string ⟨#[]⟩)).setCell ⟨w.heap.size, 4, none⟩ (.int .i64 0)).setCell ⟨w.heap.size, 5, none⟩ (.slice none 0 0)).heap[w.heap.size]? = some (.cells #[.int .i64 0, .int .i64 0, .int .i64 0, .string ⟨#[]⟩, .int .i64 0, .slice none 0 0] 33)) := six_put HZk.out 0 0 0 ⟨#[]⟩ 0 (.slice none 0 0)
      have HWB : Hid (Below w.heap.size w ((((((wr.setCell ⟨w.heap.size, 0, none⟩ (.int .i64 0)).setCell ⟨w.heap.size, 1, none⟩ (.int .i64 0)).setCell ⟨w.heap.size, 2, none⟩ (.int .i64 0)).setCell ⟨w.heap.size, 3, none⟩ (.string ⟨#[]⟩)).setCell ⟨w.heap.size, 4, none⟩ (.int .i64 0)).setCell ⟨w.heap.size, 5, none⟩ (.slice none 0 0))) := six_below (bel HB2.out HBk.out) (Nat.le_refl _) 0 0 0 ⟨#[]⟩ 0 (.slice none 0 0)
      go_wp2_with fail
      (try simp only [Exit.inBlock, Exit.then])
      generalize hWq : ((((((wr.setCell ⟨w.heap.size, 0, none⟩ (.int .i64 0)).setCell ⟨w.heap.size, 1, none⟩ (.int .i64 0)).setCell ⟨w.heap.size, 2, none⟩ (.int .i64 0)).setCell ⟨w.heap.size, 3, none⟩ (.string ⟨#[]⟩)).setCell ⟨w.heap.size, 4, none⟩ (.int .i64 0)).setCell ⟨w.heap.size, 5, none⟩ (.slice none 0 0)) = W at HW HWB ⊢
      clear hWq z0 z1 z2 z3 z4 z5 y0 y1 y2 y3 y4 y5
      refine bodyPost_ret (v := .tuple #[opZ, .bool false]) ?_ rfl ?_
      · simp [results]
        rw [show (asAddr (Value.pointer (some ⟨w.heap.size, 0, none⟩))).run Tryz.prog W = .ok ⟨w.heap.size, 0, none⟩ W from rfl]
        simp [load_op HW.out, Result.andThen]
        rfl
      · exact ⟨Or.inr ⟨HF.out, rfl⟩, HWB.out⟩

end Jf
end Go.Proofs.YtnniggjeadlbgaaGreatDoor
