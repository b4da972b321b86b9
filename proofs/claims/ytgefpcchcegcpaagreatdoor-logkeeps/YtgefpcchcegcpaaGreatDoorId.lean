/- What a doc's cut answers: the marks with that of an op, or as they are where a join saw it. -/
import Derived.Test.YtgefpcchcegcpaaGreatDoorIc
import Derived.Test.YtgefpcchcegcpaaGreatDoorJ5
namespace Go.Proofs.YtgefpcchcegcpaaGreatDoor
namespace Idc
set_option linter.unusedVariables false
open Go.ChangeShapes Go.WideShapes Go.ChangeAt Go.RowKit Cm Ka Kb Na Om Oa Oz Oc Og Oi Hm Ia Ib Ic
open La (bel bel_drew errV_zero errV_ne own_ge own_grow own_below Lies)

theorem mark_small {x : Mk} (h : markE x = 0) : x.1.size ≤ maxLen := by
  unfold markE at h
  split at h
  · next h1 => exact absurd h h1
  · next h1 =>
    have h2 : Pm.chk x.1.toList = 0 := by simpa using h1
    have h3 := (Bm.chk_pos h2).2
    unfold maxLen; rw [Kb.len_eq] at h3; omega
theorem row_get {w : World} {M : List Ent} (h : ∀ x ∈ M, RowS w x.2.1 x.2.2) (d : Dt) : RowS w (getV M d) (getJ M d) := by
  rcases get_mem d M with ⟨e1, e2⟩ | ⟨x, hx, e1, e2⟩
  · rw [e1, e2]; exact World.ownsRow_nil _ _ _ _
  · rw [← e1, ← e2]; exact h x hx
theorem short_get {M : List Ent} {N : Nat} (h : ∀ x ∈ M, x.2.2.length ≤ N) (d : Dt) : (getJ M d).length ≤ N := by
  rcases get_mem d M with ⟨_, e2⟩ | ⟨x, hx, _, e2⟩
  · rw [e2]; exact Nat.zero_le _
  · rw [← e2]; exact h x hx
theorem MapAt.stay {w w' : World} {B : Nat} {M : List Ent} (h : MapAt w B M) (hs : w'.heap[B]? = w.heap[B]?) : MapAt w' B M := by
  obtain ⟨es, clock, hb, h2⟩ := h
  exact ⟨es, clock, hs.trans hb, h2⟩
theorem MapAt.lt {w : World} {B : Nat} {M : List Ent} (h : MapAt w B M) : B < w.heap.size := by
  obtain ⟨es, clock, hb, h2⟩ := h
  exact (Array.getElem?_eq_some_iff.1 hb).1
theorem MapAt.below {w w' : World} {B : Nat} {M : List Ent} (h : MapAt w B M) (hb : Below w.heap.size w w') : MapAt w' B M := MapAt.stay h (hb.block B (MapAt.lt h))
theorem RowS.below {w w' : World} {v : Value} {l : List ByteArray} (h : RowS w v l) (hb : Below w.heap.size w w') : RowS w' v l := own_below h hb

set_option maxRecDepth 100000 in
set_option maxHeartbeats 2000000 in
theorem cut_gone (m : Mem) (S : Dq) (G : Nat → Prop) (a b t : Int) (p : ByteArray) (c : Int) (vs : Value) (w : World) (h : DocMem w m S G) (hs : ∀ x ∈ m.M, x.2.2.length ≤ 1048576) (hj : isIn (getJ m.M (a, b)) p = true) :
    Calls Tryz.prog 82 #[.pointer (some ⟨m.D, 0, none⟩), .agg #[.int .i64 a, .int .i64 b, .int .i64 t, .string p, .int .i64 c, vs]] w fun e w' => e = .returned (.tuple #[m.vm, .nilIface]) ∧ Below w.heap.size w w' := by
  have d4 := blk_cell h.blk (i := 4) (u := .map (some m.B)) rfl
  have d1 := blk_cell h.blk (i := 1) (u := m.vm) rfl
  have HB1 : Hid (Below w.heap.size w (w.alloc (.cells #[.int .i64 a, .int .i64 b, .int .i64 t, .string p, .int .i64 c, vs] 34))) := (Below.refl _ w).alloc (Nat.le_refl _) _
  have hlk := fun k => lookup_run (MapAt.below h.map (bel_drew HB1.out k)) a b
  have hr := row_get h.rows (a, b)
  have C := fun k => contains_any _ _ p _ (RowS.below hr (bel_drew HB1.out k)) (short_get hs (a, b))
  rw [hj] at C
  obtain ⟨q, cc, hv, _⟩ := row_txts hr
  rw [hv] at hlk C
  obtain ⟨n, hn⟩ : ∃ n, n = (getJ m.M (a, b)).length := ⟨_, rfl⟩
  obtain ⟨D, hD⟩ : ∃ D, D = m.D := ⟨_, rfl⟩
  obtain ⟨B, hB⟩ : ∃ B, B = m.B := ⟨_, rfl⟩
  obtain ⟨vm, hvm⟩ : ∃ vm, vm = m.vm := ⟨_, rfl⟩
  obtain ⟨pm, nm, cm, hsm⟩ : ∃ pm nm cm, m.vm = .slice pm nm cm := by obtain ⟨pm, cm, e, _⟩ := h.marks; exact ⟨_, _, _, e⟩
  rw [← hn] at hlk C
  rw [← hB] at hlk d4
  rw [← hD] at d4 d1
  rw [hsm] at d1
  rw [← hD, hsm]
  have e4 := keep_cell HB1.out d4
  have e1 := keep_cell HB1.out d1
  obtain ⟨o0, o1, o2, o3, o4, o5⟩ := six_new w a b t p c vs 34
  clear h hs hj hr hv hn hD hB hvm hsm
  go_enter Tryz.func82, Tryz.ntmps82
  go_wp2_with fail
  go_quiet (exact Calls.quiet_of_same (C _))
  go_wp2_with fail
  go_ret2
  exact ⟨rfl, bel_drew HB1.out _⟩

set_option maxRecDepth 100000 in
set_option maxHeartbeats 2000000 in
theorem cut_not (m : Mem) (S : Dq) (G : Nat → Prop) (a b t : Int) (p : ByteArray) (c : Int) (vs : Value) (w : World) (h : DocMem w m S G) (hs : ∀ x ∈ m.M, x.2.2.length ≤ 1048576) (hj : isIn (getJ m.M (a, b)) p = false) (hb0 : marksE S.marks = 0) (hp : p.size ≤ maxLen) :
    Calls Tryz.prog 82 #[.pointer (some ⟨m.D, 0, none⟩), .agg #[.int .i64 a, .int .i64 b, .int .i64 t, .string p, .int .i64 c, vs]] w fun e w' => ∃ v', e = .returned (.tuple #[v', errV (cutE S.marks (p, (a, b)))]) ∧ MksNew w.heap.size w' v' (cutL S.marks (p, (a, b))) ∧ Below w.heap.size w w' := by
  have d4 := blk_cell h.blk (i := 4) (u := .map (some m.B)) rfl
  have d1 := blk_cell h.blk (i := 1) (u := m.vm) rfl
  have HB1 : Hid (Below w.heap.size w (w.alloc (.cells #[.int .i64 a, .int .i64 b, .int .i64 t, .string p, .int .i64 c, vs] 34))) := (Below.refl _ w).alloc (Nat.le_refl _) _
  have hlk := fun k => lookup_run (MapAt.below h.map (bel_drew HB1.out k)) a b
  have hr := row_get h.rows (a, b)
  have C := fun k => contains_any _ _ p _ (RowS.below hr (bel_drew HB1.out k)) (short_get hs (a, b))
  rw [hj] at C
  have hms : ∀ x ∈ S.marks, x.1.size ≤ maxLen := fun x hx => mark_small ((marksE_zero.1 hb0).2.1 x hx)
  have HCC : Hid (∀ W, Below w.heap.size w W → Calls Tryz.prog 102 #[m.vm, .agg #[.string p, .int .i64 a, .int .i64 b]] W fun e w' => ∃ v', e = .returned (.tuple #[v', errV (cutE S.marks (p, (a, b)))]) ∧ MksNew w.heap.size w' v' (cutL S.marks (p, (a, b))) ∧ Below W.heap.size W w') :=
    fun W hb => (Nh.cut_loc m.vm S.marks p a b W (h.marks.below hb) hms hp).mono fun e w' ⟨v', h1, h2, h3⟩ => ⟨v', h1, h2.mono hb.size, h3⟩
  obtain ⟨q, cc, hv, _⟩ := row_txts hr
  rw [hv] at hlk C
  obtain ⟨n, hn⟩ : ∃ n, n = (getJ m.M (a, b)).length := ⟨_, rfl⟩
  obtain ⟨D, hD⟩ : ∃ D, D = m.D := ⟨_, rfl⟩
  obtain ⟨B, hB⟩ : ∃ B, B = m.B := ⟨_, rfl⟩
  obtain ⟨pm, nm, cm, hsm⟩ : ∃ pm nm cm, m.vm = .slice pm nm cm := by obtain ⟨pm, cm, e, _⟩ := h.marks; exact ⟨_, _, _, e⟩
  obtain ⟨ee, hee⟩ : ∃ ee, ee = errV (cutE S.marks (p, (a, b))) := ⟨_, rfl⟩
  rw [← hn] at hlk C
  rw [← hB] at hlk d4
  rw [← hD] at d4 d1
  rw [hsm] at d1
  rw [hsm, ← hee] at HCC
  rw [← hD, ← hee]
  have e4 := keep_cell HB1.out d4
  have e1 := keep_cell HB1.out d1
  obtain ⟨o0, o1, o2, o3, o4, o5⟩ := six_new w a b t p c vs 34
  clear h hs hj hr hv hn hD hB hsm hee hms hb0 hp
  go_enter Tryz.func82, Tryz.ntmps82
  go_wp2_with fail
  go_quiet (exact Calls.quiet_of_same (C _))
  go_wp2_with fail
  generalize hwq : World.drewN _ _ = wq
  have HBq : Hid (Below w.heap.size w wq) := by rw [← hwq]; exact bel_drew HB1.out _
  have i1 : wq.cell? ⟨D, 1, none⟩ = some (.slice pm nm cm) := by rw [← hwq]; exact e1
  have k0 : wq.cell? ⟨w.heap.size, 0, none⟩ = some (.int .i64 a) := by rw [← hwq]; exact o0
  have k1 : wq.cell? ⟨w.heap.size, 1, none⟩ = some (.int .i64 b) := by rw [← hwq]; exact o1
  have k3 : wq.cell? ⟨w.heap.size, 3, none⟩ = some (.string p) := by rw [← hwq]; exact o3
  clear hwq e4 e1 o0 o1 o2 o3 o4 o5 hlk C HB1 d4 d1
  go_region_held3 (fun W => W.cell? ⟨D, 1, none⟩ = some (.slice pm nm cm) ∧ W.cell? ⟨w.heap.size, 0, none⟩ = some (.int .i64 a) ∧ W.cell? ⟨w.heap.size, 1, none⟩ = some (.int .i64 b) ∧ W.cell? ⟨w.heap.size, 3, none⟩ = some (.string p)) (first | (go_keep; done) | (refine ⟨keep_cell hb7 ?_, keep_cell hb7 ?_, keep_cell hb7 ?_, keep_cell hb7 ?_⟩ <;> (go_split_ands; assumption))) (first
    | (go_at_call 102; refine (HCC.out _ HBq.out.drew).mono ?_; rintro e w7 ⟨v7, rfl, hk7, hb7⟩; have HK7 : Hid (MksNew w.heap.size w7 v7 (cutL S.marks (p, (a, b)))) := hk7; have HB7 : Hid (Below w.heap.size w w7) := bel HBq.out.drew hb7; clear hk7))
  all_goals
    go_wp2_with fail
    go_ret2
    exact ⟨_, rfl, HK7.out, HB7.out⟩

end Idc
end Go.Proofs.YtgefpcchcegcpaaGreatDoor
