/- The ways of the law MarksStay. -/
import Derived.Test.YtcmoajlcmeimiaaNn
import Derived.Test.YtcmoajlcmeimiaaNh
import Derived.Test.YtcmoajlcmeimiaaNp
import Derived.Test.YtcmoajlcmeimiaaCo
namespace Go.Proofs.Ytcmoajlcmeimiaa
namespace Nq
set_option linter.unusedVariables false
open Go.ChangeShapes Go.WideShapes Go.ChangeAt Go.RowKit Cm Ka Kb Na Nb Nc Nd Nse Nf Ng Nh Ni Nj Nk Nl Nm Nn Np
open La (bel bel_drew errV_zero errV_ne own_ge own_grow own_below)

theorem one_cut (W : World) :
    Calls Try.prog 6 #[.slice none 0 0, .agg #[.string ⟨#[110, 98]⟩, .int .i64 1, .int .i64 1]] W fun e w' => ∃ b o c, e = .returned (.tuple #[.slice (some ⟨b, o, none⟩) 1 c, .nilIface]) ∧ (w'.cell? ⟨b, o, none⟩ = some (.string ⟨#[110, 98]⟩) ∧ w'.cell? ⟨b, o + 1, none⟩ = some (.int .i64 1) ∧ w'.cell? ⟨b, o + 2, none⟩ = some (.int .i64 1)) ∧ Below W.heap.size W w' := by
  have C := cut_any (.slice none 0 0) [] ⟨#[110, 98]⟩ 1 1 W (MksAt.nil W) (by intro x hx; simp at hx) (by decide)
  have h := fullM_cut (n := 0) (by omega)
  have e1 : cutE [] (⟨#[110, 98]⟩, ((1 : Int), (1 : Int))) = 0 := h.1
  have e2 : cutL [] (⟨#[110, 98]⟩, ((1 : Int), (1 : Int))) = [(⟨#[110, 98]⟩, ((1 : Int), (1 : Int)))] := h.2
  rw [e1, e2, errV_zero] at C
  refine C.mono ?_
  rintro e w' ⟨v', rfl, ⟨q, c, rfl, hm, _⟩, hb⟩
  obtain ⟨b, o, rfl, hc⟩ := hm.some (by simp)
  obtain ⟨a1, a2, a3⟩ := hc 0 (by simp)
  simp only [Nat.zero_mul, Nat.add_zero] at a1 a2 a3
  exact ⟨b, o, c, rfl, ⟨a1, a2, a3⟩, hb⟩
theorem two_cells (w : World) (sp : ByteArray) (p1 p2 : Int) {w2 : World} (hb : Below ((w.alloc (.cells #[.string sp, .int .i64 p1, .int .i64 p2] 26)).alloc (.cells #[.string ⟨#[110, 98]⟩, .int .i64 1, .int .i64 1] 26)).heap.size ((w.alloc (.cells #[.string sp, .int .i64 p1, .int .i64 p2] 26)).alloc (.cells #[.string ⟨#[110, 98]⟩, .int .i64 1, .int .i64 1] 26)) w2) :
    (w2.cell? ⟨w.heap.size, 0, none⟩ = some (.string sp) ∧ w2.cell? ⟨w.heap.size, 1, none⟩ = some (.int .i64 p1) ∧ w2.cell? ⟨w.heap.size, 2, none⟩ = some (.int .i64 p2)) ∧ (w2.cell? ⟨w.heap.size + 1, 0, none⟩ = some (.string ⟨#[110, 98]⟩) ∧ w2.cell? ⟨w.heap.size + 1, 1, none⟩ = some (.int .i64 1) ∧ w2.cell? ⟨w.heap.size + 1, 2, none⟩ = some (.int .i64 1)) := by
  have h1 := new_cell (w := w) (w2 := ((w.alloc (.cells #[.string sp, .int .i64 p1, .int .i64 p2] 26)).alloc (.cells #[.string ⟨#[110, 98]⟩, .int .i64 1, .int .i64 1] 26))) (x := (sp, (p1, p2))) (t := 26) ((Below.refl _ _).alloc (Nat.le_refl _) _)
  have h2 := new_cell (w := w.alloc (.cells #[.string sp, .int .i64 p1, .int .i64 p2] 26)) (w2 := ((w.alloc (.cells #[.string sp, .int .i64 p1, .int .i64 p2] 26)).alloc (.cells #[.string ⟨#[110, 98]⟩, .int .i64 1, .int .i64 1] 26))) (x := (⟨#[110, 98]⟩, (1, 1))) (t := 26) (Below.refl _ _)
  have e : (w.alloc (.cells #[.string sp, .int .i64 p1, .int .i64 p2] 26)).heap.size = w.heap.size + 1 := by simp
  rw [e] at h2
  exact ⟨⟨keep_cell hb h1.1, keep_cell hb h1.2.1, keep_cell hb h1.2.2⟩, keep_cell hb h2.1, keep_cell hb h2.2.1, keep_cell hb h2.2.2⟩

set_option maxRecDepth 100000 in
set_option maxHeartbeats 8000000 in
theorem walk_seen (v : Value) (l : List Mk) (sp : ByteArray) (p1 p2 : Int) (w : World) (h : MksAt w v l) (hs : ∀ x ∈ l, x.1.size ≤ maxLen) (hp : sp.size ≤ maxLen) (h0 : seenE l sp ≠ 0) : Calls Try.prog 3 #[v, .agg #[.string sp, .int .i64 p1, .int .i64 p2]] w fun e w' => e = .returned (.bool true) ∧ Below w.heap.size w w' := by
  have HB0 : Hid (Below w.heap.size w ((w.alloc (.cells #[.string sp, .int .i64 p1, .int .i64 p2] 26)).alloc (.cells #[.string ⟨#[110, 98]⟩, .int .i64 1, .int .i64 1] 26))) := ((Below.refl _ w).alloc (Nat.le_refl _) _).alloc (by simp) _
  have HTC : Hid (∀ w2, Below ((w.alloc (.cells #[.string sp, .int .i64 p1, .int .i64 p2] 26)).alloc (.cells #[.string ⟨#[110, 98]⟩, .int .i64 1, .int .i64 1] 26)).heap.size ((w.alloc (.cells #[.string sp, .int .i64 p1, .int .i64 p2] 26)).alloc (.cells #[.string ⟨#[110, 98]⟩, .int .i64 1, .int .i64 1] 26)) w2 → (w2.cell? ⟨w.heap.size, 0, none⟩ = some (.string sp) ∧ w2.cell? ⟨w.heap.size, 1, none⟩ = some (.int .i64 p1) ∧ w2.cell? ⟨w.heap.size, 2, none⟩ = some (.int .i64 p2)) ∧ (w2.cell? ⟨w.heap.size + 1, 0, none⟩ = some (.string ⟨#[110, 98]⟩) ∧ w2.cell? ⟨w.heap.size + 1, 1, none⟩ = some (.int .i64 1) ∧ w2.cell? ⟨w.heap.size + 1, 2, none⟩ = some (.int .i64 1))) := fun w2 hb => two_cells w sp p1 p2 hb
  have hq1 : ∀ w, (binOp .neq 26 (.agg #[.string ⟨#[110, 98]⟩, .int .i64 1, .int .i64 1]) (.agg #[.string ⟨#[110, 98]⟩, .int .i64 1, .int .i64 1])).run Try.prog w = .ok (.bool false) w := fun w => by rw [neq_mark]; simp
  have hg1 : Try.prog.eqGuardType Try.prog.depth 26 = false := by kernel_rfl
  have HS2 : Hid (∀ w2, Below w.heap.size w w2 → Calls Try.prog 7 #[v, .string sp] w2 fun e w' => ∃ v', e = .returned (.tuple #[v', errV (seenE l sp)]) ∧ DtsAt w' v' (seenL l sp) ∧ Below w2.heap.size w2 w') := fun w2 hb => seen_any v l sp w2 (h.below hb) hs hp
  have HC3 : Hid (∀ w2, Below w.heap.size w w2 → Calls Try.prog 6 #[v, .agg #[.string sp, .int .i64 p1, .int .i64 p2]] w2 fun e w' => ∃ v', e = .returned (.tuple #[v', errV (cutE l (sp, (p1, p2)))]) ∧ MksAt w' v' (cutL l (sp, (p1, p2))) ∧ Below w2.heap.size w2 w') := fun w2 hb => cut_any v l sp p1 p2 w2 (h.below hb) hs hp
  obtain ⟨z, hz⟩ : ∃ z, z = seenE l sp := ⟨_, rfl⟩
  rw [errV_ne h0, ← hz] at HS2
  obtain ⟨y, hy⟩ : ∃ y, y = errV (cutE l (sp, (p1, p2))) := ⟨_, rfl⟩
  rw [← hy] at HC3
  clear hs hp h0 hz hy
  obtain ⟨q0, c0, rfl, _⟩ := h
  obtain ⟨n0, hn0⟩ : ∃ n0, n0 = l.length := ⟨_, rfl⟩
  rw [← hn0] at HS2 HC3
  rw [← hn0]
  clear hn0
  go_enter Try.func3, Try.ntmps3
  go_wp2_with fail
  refine (one_cut _).mono ?_
  rintro e w1 ⟨b1, o1, c1, rfl, ⟨x1, x2, x3⟩, hb1⟩
  have K1 : Hid (Below w.heap.size w w1) := bel HB0.out hb1
  obtain ⟨⟨d0, d1, d2⟩, y0, y1, y2⟩ := HTC.out w1 hb1
  clear hb1
  go_wp2_with fail
  go_quiet (fail)
  generalize hwq : World.drewN _ _ = wq
  have KQ : Hid (Below w.heap.size w wq) := by rw [← hwq]; exact bel_drew K1.out _
  have g0 : wq.cell? ⟨w.heap.size, 0, none⟩ = some (.string sp) := by rw [← hwq]; exact d0
  have g1 : wq.cell? ⟨w.heap.size, 1, none⟩ = some (.int .i64 p1) := by rw [← hwq]; exact d1
  have g2 : wq.cell? ⟨w.heap.size, 2, none⟩ = some (.int .i64 p2) := by rw [← hwq]; exact d2
  clear hwq d0 d1 d2 y0 y1 y2 x1 x2 x3 K1
  have C2 := HS2.out wq KQ.out
  go_wp2_with fail
  refine C2.mono ?_
  rintro e w2 ⟨v2, rfl, _, hb2⟩
  have KB2 : Hid (Below w.heap.size w w2) := bel KQ.out hb2
  have g0' := keep_cell hb2 g0
  have g1' := keep_cell hb2 g1
  have g2' := keep_cell hb2 g2
  clear hb2 C2 g0 g1 g2
  have g0 := g0'
  have g1 := g1'
  have g2 := g2'
  clear g0' g1' g2'
  have C3 := HC3.out w2 KB2.out
  go_wp2_with fail
  refine C3.mono ?_
  rintro e w3 ⟨v3, rfl, _, hb3⟩
  have KB3 : Hid (Below w.heap.size w w3) := bel KB2.out hb3
  have g0' := keep_cell hb3 g0
  have g1' := keep_cell hb3 g1
  have g2' := keep_cell hb3 g2
  clear hb3 C3 g0 g1 g2
  have g0 := g0'
  have g1 := g1'
  have g2 := g2'
  clear g0' g1' g2'
  go_wp2_with fail
  go_ret
  exact ⟨rfl, KB3.out⟩

set_option maxRecDepth 100000 in
set_option maxHeartbeats 8000000 in
theorem walk_cut (v : Value) (l : List Mk) (sp : ByteArray) (p1 p2 : Int) (w : World) (h : MksAt w v l) (hs : ∀ x ∈ l, x.1.size ≤ maxLen) (hp : sp.size ≤ maxLen) (h0 : seenE l sp = 0) (h1 : cutE l (sp, (p1, p2)) ≠ 0) : Calls Try.prog 3 #[v, .agg #[.string sp, .int .i64 p1, .int .i64 p2]] w fun e w' => e = .returned (.bool true) ∧ Below w.heap.size w w' := by
  have HB0 : Hid (Below w.heap.size w ((w.alloc (.cells #[.string sp, .int .i64 p1, .int .i64 p2] 26)).alloc (.cells #[.string ⟨#[110, 98]⟩, .int .i64 1, .int .i64 1] 26))) := ((Below.refl _ w).alloc (Nat.le_refl _) _).alloc (by simp) _
  have HTC : Hid (∀ w2, Below ((w.alloc (.cells #[.string sp, .int .i64 p1, .int .i64 p2] 26)).alloc (.cells #[.string ⟨#[110, 98]⟩, .int .i64 1, .int .i64 1] 26)).heap.size ((w.alloc (.cells #[.string sp, .int .i64 p1, .int .i64 p2] 26)).alloc (.cells #[.string ⟨#[110, 98]⟩, .int .i64 1, .int .i64 1] 26)) w2 → (w2.cell? ⟨w.heap.size, 0, none⟩ = some (.string sp) ∧ w2.cell? ⟨w.heap.size, 1, none⟩ = some (.int .i64 p1) ∧ w2.cell? ⟨w.heap.size, 2, none⟩ = some (.int .i64 p2)) ∧ (w2.cell? ⟨w.heap.size + 1, 0, none⟩ = some (.string ⟨#[110, 98]⟩) ∧ w2.cell? ⟨w.heap.size + 1, 1, none⟩ = some (.int .i64 1) ∧ w2.cell? ⟨w.heap.size + 1, 2, none⟩ = some (.int .i64 1))) := fun w2 hb => two_cells w sp p1 p2 hb
  have hq1 : ∀ w, (binOp .neq 26 (.agg #[.string ⟨#[110, 98]⟩, .int .i64 1, .int .i64 1]) (.agg #[.string ⟨#[110, 98]⟩, .int .i64 1, .int .i64 1])).run Try.prog w = .ok (.bool false) w := fun w => by rw [neq_mark]; simp
  have hg1 : Try.prog.eqGuardType Try.prog.depth 26 = false := by kernel_rfl
  have HS2 : Hid (∀ w2, Below w.heap.size w w2 → Calls Try.prog 7 #[v, .string sp] w2 fun e w' => ∃ v', e = .returned (.tuple #[v', errV (seenE l sp)]) ∧ DtsAt w' v' (seenL l sp) ∧ Below w2.heap.size w2 w') := fun w2 hb => seen_any v l sp w2 (h.below hb) hs hp
  have HC3 : Hid (∀ w2, Below w.heap.size w w2 → Calls Try.prog 6 #[v, .agg #[.string sp, .int .i64 p1, .int .i64 p2]] w2 fun e w' => ∃ v', e = .returned (.tuple #[v', errV (cutE l (sp, (p1, p2)))]) ∧ MksAt w' v' (cutL l (sp, (p1, p2))) ∧ Below w2.heap.size w2 w') := fun w2 hb => cut_any v l sp p1 p2 w2 (h.below hb) hs hp
  rw [h0, errV_zero] at HS2
  obtain ⟨y, hy⟩ : ∃ y, y = cutE l (sp, (p1, p2)) := ⟨_, rfl⟩
  rw [errV_ne h1, ← hy] at HC3
  clear hs hp h0 h1 hy
  obtain ⟨q0, c0, rfl, _⟩ := h
  obtain ⟨n0, hn0⟩ : ∃ n0, n0 = l.length := ⟨_, rfl⟩
  rw [← hn0] at HS2 HC3
  rw [← hn0]
  clear hn0
  go_enter Try.func3, Try.ntmps3
  go_wp2_with fail
  refine (one_cut _).mono ?_
  rintro e w1 ⟨b1, o1, c1, rfl, ⟨x1, x2, x3⟩, hb1⟩
  have K1 : Hid (Below w.heap.size w w1) := bel HB0.out hb1
  obtain ⟨⟨d0, d1, d2⟩, y0, y1, y2⟩ := HTC.out w1 hb1
  clear hb1
  go_wp2_with fail
  go_quiet (fail)
  generalize hwq : World.drewN _ _ = wq
  have KQ : Hid (Below w.heap.size w wq) := by rw [← hwq]; exact bel_drew K1.out _
  have g0 : wq.cell? ⟨w.heap.size, 0, none⟩ = some (.string sp) := by rw [← hwq]; exact d0
  have g1 : wq.cell? ⟨w.heap.size, 1, none⟩ = some (.int .i64 p1) := by rw [← hwq]; exact d1
  have g2 : wq.cell? ⟨w.heap.size, 2, none⟩ = some (.int .i64 p2) := by rw [← hwq]; exact d2
  clear hwq d0 d1 d2 y0 y1 y2 x1 x2 x3 K1
  have C2 := HS2.out wq KQ.out
  go_wp2_with fail
  refine C2.mono ?_
  rintro e w2 ⟨v2, rfl, _, hb2⟩
  have KB2 : Hid (Below w.heap.size w w2) := bel KQ.out hb2
  have g0' := keep_cell hb2 g0
  have g1' := keep_cell hb2 g1
  have g2' := keep_cell hb2 g2
  clear hb2 C2 g0 g1 g2
  have g0 := g0'
  have g1 := g1'
  have g2 := g2'
  clear g0' g1' g2'
  have C3 := HC3.out w2 KB2.out
  go_wp2_with fail
  refine C3.mono ?_
  rintro e w3 ⟨v3, rfl, _, hb3⟩
  have KB3 : Hid (Below w.heap.size w w3) := bel KB2.out hb3
  have g0' := keep_cell hb3 g0
  have g1' := keep_cell hb3 g1
  have g2' := keep_cell hb3 g2
  clear hb3 C3 g0 g1 g2
  have g0 := g0'
  have g1 := g1'
  have g2 := g2'
  clear g0' g1' g2'
  go_wp2_with fail
  go_ret
  exact ⟨rfl, KB3.out⟩

theorem size_ins {l : List Mk} {m : Mk} (hs : ∀ x ∈ l, x.1.size ≤ maxLen) (hp : m.1.size ≤ maxLen) : ∀ x ∈ ins mlt l m, x.1.size ≤ maxLen := by
  intro x hx
  rcases (mem_ins l m x).1 hx with rfl | hx
  · exact hp
  · exact hs x hx
theorem size_without {l : List Mk} {p : ByteArray} {s : List Dt} (hs : ∀ x ∈ l, x.1.size ≤ maxLen) : ∀ x ∈ without l p s, x.1.size ≤ maxLen := fun x hx => hs x (List.mem_filter.1 hx).1

set_option maxRecDepth 100000 in
set_option maxHeartbeats 16000000 in
theorem walk_ok (v : Value) (l : List Mk) (sp : ByteArray) (p1 p2 : Int) (w : World) (h : MksAt w v l) (hs : ∀ x ∈ l, x.1.size ≤ maxLen) (hp : sp.size ≤ maxLen) (h0 : seenE l sp = 0) (h1 : cutE l (sp, (p1, p2)) = 0) : Calls Try.prog 3 #[v, .agg #[.string sp, .int .i64 p1, .int .i64 p2]] w fun e w' => e = .returned (.bool true) ∧ Below w.heap.size w w' := by
  have HB0 : Hid (Below w.heap.size w ((w.alloc (.cells #[.string sp, .int .i64 p1, .int .i64 p2] 26)).alloc (.cells #[.string ⟨#[110, 98]⟩, .int .i64 1, .int .i64 1] 26))) := ((Below.refl _ w).alloc (Nat.le_refl _) _).alloc (by simp) _
  have HTC : Hid (∀ w2, Below ((w.alloc (.cells #[.string sp, .int .i64 p1, .int .i64 p2] 26)).alloc (.cells #[.string ⟨#[110, 98]⟩, .int .i64 1, .int .i64 1] 26)).heap.size ((w.alloc (.cells #[.string sp, .int .i64 p1, .int .i64 p2] 26)).alloc (.cells #[.string ⟨#[110, 98]⟩, .int .i64 1, .int .i64 1] 26)) w2 → (w2.cell? ⟨w.heap.size, 0, none⟩ = some (.string sp) ∧ w2.cell? ⟨w.heap.size, 1, none⟩ = some (.int .i64 p1) ∧ w2.cell? ⟨w.heap.size, 2, none⟩ = some (.int .i64 p2)) ∧ (w2.cell? ⟨w.heap.size + 1, 0, none⟩ = some (.string ⟨#[110, 98]⟩) ∧ w2.cell? ⟨w.heap.size + 1, 1, none⟩ = some (.int .i64 1) ∧ w2.cell? ⟨w.heap.size + 1, 2, none⟩ = some (.int .i64 1))) := fun w2 hb => two_cells w sp p1 p2 hb
  have hq1 : ∀ w, (binOp .neq 26 (.agg #[.string ⟨#[110, 98]⟩, .int .i64 1, .int .i64 1]) (.agg #[.string ⟨#[110, 98]⟩, .int .i64 1, .int .i64 1])).run Try.prog w = .ok (.bool false) w := fun w => by rw [neq_mark]; simp
  have hg1 : Try.prog.eqGuardType Try.prog.depth 26 = false := by kernel_rfl
  have HS2 : Hid (∀ w2, Below w.heap.size w w2 → Calls Try.prog 7 #[v, .string sp] w2 fun e w' => ∃ v', e = .returned (.tuple #[v', errV (seenE l sp)]) ∧ DtsAt w' v' (seenL l sp) ∧ Below w2.heap.size w2 w') := fun w2 hb => seen_any v l sp w2 (h.below hb) hs hp
  have HC3 : Hid (∀ w2, Below w.heap.size w w2 → Calls Try.prog 6 #[v, .agg #[.string sp, .int .i64 p1, .int .i64 p2]] w2 fun e w' => ∃ v', e = .returned (.tuple #[v', errV (cutE l (sp, (p1, p2)))]) ∧ MksAt w' v' (cutL l (sp, (p1, p2))) ∧ Below w2.heap.size w2 w') := fun w2 hb => cut_any v l sp p1 p2 w2 (h.below hb) hs hp
  have eD : seenL l sp = dotsAt l sp := by unfold seenL; rw [if_pos h0]
  obtain ⟨eX, hmX⟩ := cut_marks h1
  obtain ⟨a1, a2⟩ := cut_again h1
  have hX40 : (cutL l (sp, (p1, p2))).length ≤ 40 := (marksE_zero.1 hmX).1
  have hl40 : l.length ≤ 40 := (marksE_zero.1 (seenE_zero.1 h0).1).1
  have hsX : ∀ x ∈ cutL l (sp, (p1, p2)), x.1.size ≤ maxLen := by rw [eX]; exact size_ins hs hp
  have hsx : seenE (cutL l (sp, (p1, p2))) sp = 0 := seenE_zero.2 ⟨hmX, (seenE_zero.1 h0).2⟩
  obtain ⟨j1, j2, j3⟩ := join_all hsx
  obtain ⟨k1, k2⟩ := join_stays (m := (sp, (p1, p2))) h0 h1
  simp only at k1 k2
  rw [h0, errV_zero, eD] at HS2
  rw [h1, errV_zero] at HC3
  rw [(join_marks j1).1] at j2 j3
  rw [(join_marks k1).1] at k2
  have HJM : Hid (marksE (without (cutL l (sp, (p1, p2))) sp (dotsAt (cutL l (sp, (p1, p2))) sp)) = 0) := by have := (join_marks j1).2; rwa [(join_marks j1).1] at this
  have HKM : Hid (marksE (without (cutL l (sp, (p1, p2))) sp (dotsAt l sp)) = 0) := by have := (join_marks k1).2; rwa [(join_marks k1).1] at this
  obtain ⟨X, hX⟩ : ∃ X, X = cutL l (sp, (p1, p2)) := ⟨_, rfl⟩
  rw [← hX] at HC3 a1 a2 hX40 hsX hsx j1 j2 j3 k1 k2 HJM HKM
  have hpl := (seenE_zero.1 h0).2
  have HC4 : Hid (∀ w2 v', MksAt w2 v' X → Calls Try.prog 6 #[v', .agg #[.string sp, .int .i64 p1, .int .i64 p2]] w2 fun e w' => ∃ v'', e = .returned (.tuple #[v'', .nilIface]) ∧ MksAt w' v'' X ∧ Below w2.heap.size w2 w') := fun w2 v' hk => by
    have := cut_any v' X sp p1 p2 w2 hk hsX hp
    rw [a1, a2, errV_zero] at this; exact this
  have HL5 : Hid (∀ w2 v' u', MksAt w2 v' X → MksAt w2 u' X → Calls Try.prog 8 #[v', u'] w2 fun e w' => e = .returned (.bool true) ∧ Below w2.heap.size w2 w') := fun w2 v' u' hk hk2 => by
    have := marks_any v' u' X X w2 hk hk2 (by omega)
    rw [decide_eq_true rfl] at this; exact this
  have HS6 : Hid (∀ w2 v', MksAt w2 v' X → Calls Try.prog 7 #[v', .string sp] w2 fun e w' => ∃ v'', e = .returned (.tuple #[v'', .nilIface]) ∧ DtsAt w' v'' (dotsAt X sp) ∧ Below w2.heap.size w2 w') := fun w2 v' hk => by
    have := seen_any v' X sp w2 hk hsX hp
    rw [hsx, errV_zero, show seenL X sp = dotsAt X sp by unfold seenL; rw [if_pos hsx]] at this; exact this
  have HJ7 : Hid (∀ w2 v' u', MksAt w2 v' X → DtsAt w2 u' (dotsAt X sp) → Calls Try.prog 9 #[v', .string sp, u'] w2 fun e w' => ∃ v'', e = .returned (.tuple #[v'', .nilIface]) ∧ MksAt w' v'' (without X sp (dotsAt X sp)) ∧ Below w2.heap.size w2 w') := fun w2 v' u' hk hd => join_ok v' X sp u' _ w2 hk hsX hp hd j1
  have HS8 : Hid (∀ w2 v', MksAt w2 v' (without X sp (dotsAt X sp)) → Calls Try.prog 7 #[v', .string sp] w2 fun e w' => ∃ v'', e = .returned (.tuple #[v'', .nilIface]) ∧ DtsAt w' v'' [] ∧ Below w2.heap.size w2 w') := fun w2 v' hk => by
    have := seen_any v' _ sp w2 hk (size_without hsX) hp
    have e0 : seenE (without X sp (dotsAt X sp)) sp = 0 := seenE_zero.2 ⟨HJM.out, hpl⟩
    rw [e0, errV_zero, show seenL (without X sp (dotsAt X sp)) sp = dotsAt (without X sp (dotsAt X sp)) sp by unfold seenL; rw [if_pos e0], j2] at this; exact this
  have HJ9 : Hid (∀ w2 v' u', MksAt w2 v' X → DtsAt w2 u' (dotsAt l sp) → Calls Try.prog 9 #[v', .string sp, u'] w2 fun e w' => ∃ v'', e = .returned (.tuple #[v'', .nilIface]) ∧ MksAt w' v'' (without X sp (dotsAt l sp)) ∧ Below w2.heap.size w2 w') := fun w2 v' u' hk hd => join_ok v' X sp u' _ w2 hk hsX hp hd k1
  have HS10 : Hid (∀ w2 v', MksAt w2 v' (without X sp (dotsAt l sp)) → Calls Try.prog 7 #[v', .string sp] w2 fun e w' => ∃ v'', e = .returned (.tuple #[v'', .nilIface]) ∧ DtsAt w' v'' (if (p1, p2) ∈ dotsAt l sp then [] else [(p1, p2)]) ∧ Below w2.heap.size w2 w') := fun w2 v' hk => by
    have := seen_any v' _ sp w2 hk (size_without hsX) hp
    have e0 : seenE (without X sp (dotsAt l sp)) sp = 0 := seenE_zero.2 ⟨HKM.out, hpl⟩
    rw [e0, errV_zero, show seenL (without X sp (dotsAt l sp)) sp = dotsAt (without X sp (dotsAt l sp)) sp by unfold seenL; rw [if_pos e0], k2] at this; exact this
  have HI11 : Hid (∀ w2 v', DtsAt w2 v' (dotsAt l sp) → Calls Try.prog 10 #[v', .agg #[.int .i64 p1, .int .i64 p2]] w2 fun e w' => e = .returned (.bool (decide ((p1, p2) ∈ dotsAt l sp))) ∧ Below w2.heap.size w2 w') := fun w2 v' hd => in_any v' _ p1 p2 w2 hd (by have := dotsAt_len l sp; omega)
  have HLN : Hid ((without X sp (dotsAt X sp)).length + (dotsAt X sp).length = X.length ∧ X.length ≤ 40) := ⟨j3, hX40⟩
  clear hs hp h0 h1 eD eX hmX a1 a2 hX40 hl40 hsX hsx j1 j2 j3 k1 k2 hX hpl HJM HKM
  obtain ⟨q0, c0, rfl, _⟩ := h
  obtain ⟨n0, hn0⟩ : ∃ n0, n0 = l.length := ⟨_, rfl⟩
  rw [← hn0] at HS2 HC3
  rw [← hn0]
  clear hn0
  go_enter Try.func3, Try.ntmps3
  go_wp2_with fail
  refine (one_cut _).mono ?_
  rintro e w1 ⟨b1, o1, c1, rfl, ⟨x1, x2, x3⟩, hb1⟩
  have K1 : Hid (Below w.heap.size w w1) := bel HB0.out hb1
  obtain ⟨⟨d0, d1, d2⟩, y0, y1, y2⟩ := HTC.out w1 hb1
  clear hb1
  go_wp2_with fail
  go_quiet (fail)
  generalize hwq : World.drewN _ _ = wq
  have KQ : Hid (Below w.heap.size w wq) := by rw [← hwq]; exact bel_drew K1.out _
  have g0 : wq.cell? ⟨w.heap.size, 0, none⟩ = some (.string sp) := by rw [← hwq]; exact d0
  have g1 : wq.cell? ⟨w.heap.size, 1, none⟩ = some (.int .i64 p1) := by rw [← hwq]; exact d1
  have g2 : wq.cell? ⟨w.heap.size, 2, none⟩ = some (.int .i64 p2) := by rw [← hwq]; exact d2
  clear hwq d0 d1 d2 y0 y1 y2 x1 x2 x3 K1
  have C2 := HS2.out wq KQ.out
  go_wp2_with fail
  refine C2.mono ?_
  rintro e w2 ⟨v2, rfl, hk2, hb2⟩
  have KB2 : Hid (Below w.heap.size w w2) := bel KQ.out hb2
  have g0' := keep_cell hb2 g0
  have g1' := keep_cell hb2 g1
  have g2' := keep_cell hb2 g2
  have D2 : Hid (DtsAt w2 v2 (dotsAt l sp)) := hk2
  clear hk2
  clear hb2 C2 g0 g1 g2
  have g0 := g0'
  have g1 := g1'
  have g2 := g2'
  clear g0' g1' g2'
  have C3 := HC3.out w2 KB2.out
  go_wp2_with fail
  refine C3.mono ?_
  rintro e w3 ⟨v3, rfl, hk3, hb3⟩
  have KB3 : Hid (Below w.heap.size w w3) := bel KB2.out hb3
  have g0' := keep_cell hb3 g0
  have g1' := keep_cell hb3 g1
  have g2' := keep_cell hb3 g2
  have M3 : Hid (MksAt w3 v3 X) := hk3
  clear hk3
  have D2n : Hid (DtsAt w3 v2 (dotsAt l sp)) := D2.out.below hb3
  clear D2
  have D2 := D2n
  clear D2n
  clear hb3 C3 g0 g1 g2
  have g0 := g0'
  have g1 := g1'
  have g2 := g2'
  clear g0' g1' g2'
  have C4 := HC4.out w3 v3 M3.out
  go_wp2_with fail
  refine C4.mono ?_
  rintro e w4 ⟨v4, rfl, hk4, hb4⟩
  have KB4 : Hid (Below w.heap.size w w4) := bel KB3.out hb4
  have g0' := keep_cell hb4 g0
  have g1' := keep_cell hb4 g1
  have g2' := keep_cell hb4 g2
  have M4 : Hid (MksAt w4 v4 X) := hk4
  clear hk4
  have M3n : Hid (MksAt w4 v3 X) := M3.out.below hb4
  clear M3
  have M3 := M3n
  clear M3n
  have D2n : Hid (DtsAt w4 v2 (dotsAt l sp)) := D2.out.below hb4
  clear D2
  have D2 := D2n
  clear D2n
  clear hb4 C4 g0 g1 g2
  have g0 := g0'
  have g1 := g1'
  have g2 := g2'
  clear g0' g1' g2'
  have C5 := HL5.out w4 v3 v4 M3.out M4.out
  go_wp2_with fail
  refine C5.mono ?_
  rintro e w5 ⟨rfl, hb5⟩
  have KB5 : Hid (Below w.heap.size w w5) := bel KB4.out hb5
  have g0' := keep_cell hb5 g0
  have g1' := keep_cell hb5 g1
  have g2' := keep_cell hb5 g2
  clear M4
  have M3n : Hid (MksAt w5 v3 X) := M3.out.below hb5
  clear M3
  have M3 := M3n
  clear M3n
  have D2n : Hid (DtsAt w5 v2 (dotsAt l sp)) := D2.out.below hb5
  clear D2
  have D2 := D2n
  clear D2n
  clear hb5 C5 g0 g1 g2
  have g0 := g0'
  have g1 := g1'
  have g2 := g2'
  clear g0' g1' g2'
  have C6 := HS6.out w5 v3 M3.out
  go_wp2_with fail
  refine C6.mono ?_
  rintro e w6 ⟨v6, rfl, hk6, hb6⟩
  have KB6 : Hid (Below w.heap.size w w6) := bel KB5.out hb6
  have g0' := keep_cell hb6 g0
  have g1' := keep_cell hb6 g1
  have g2' := keep_cell hb6 g2
  have D6 : Hid (DtsAt w6 v6 (dotsAt X sp)) := hk6
  clear hk6
  have M3n : Hid (MksAt w6 v3 X) := M3.out.below hb6
  clear M3
  have M3 := M3n
  clear M3n
  have D2n : Hid (DtsAt w6 v2 (dotsAt l sp)) := D2.out.below hb6
  clear D2
  have D2 := D2n
  clear D2n
  clear hb6 C6 g0 g1 g2
  have g0 := g0'
  have g1 := g1'
  have g2 := g2'
  clear g0' g1' g2'
  have C7 := HJ7.out w6 v3 v6 M3.out D6.out
  go_wp2_with fail
  refine C7.mono ?_
  rintro e w7 ⟨v7, rfl, hk7, hb7⟩
  have KB7 : Hid (Below w.heap.size w w7) := bel KB6.out hb7
  have g0' := keep_cell hb7 g0
  have g1' := keep_cell hb7 g1
  have g2' := keep_cell hb7 g2
  have M7 : Hid (MksAt w7 v7 (without X sp (dotsAt X sp))) := hk7
  clear hk7
  have M3n : Hid (MksAt w7 v3 X) := M3.out.below hb7
  clear M3
  have M3 := M3n
  clear M3n
  have D2n : Hid (DtsAt w7 v2 (dotsAt l sp)) := D2.out.below hb7
  clear D2
  have D2 := D2n
  clear D2n
  have D6n : Hid (DtsAt w7 v6 (dotsAt X sp)) := D6.out.below hb7
  clear D6
  have D6 := D6n
  clear D6n
  clear hb7 C7 g0 g1 g2
  have g0 := g0'
  have g1 := g1'
  have g2 := g2'
  clear g0' g1' g2'
  have C8 := HS8.out w7 v7 M7.out
  go_wp2_with fail
  refine C8.mono ?_
  rintro e w8 ⟨v8, rfl, hk8, hb8⟩
  have KB8 : Hid (Below w.heap.size w w8) := bel KB7.out hb8
  have g0' := keep_cell hb8 g0
  have g1' := keep_cell hb8 g1
  have g2' := keep_cell hb8 g2
  have D8 : Hid (DtsAt w8 v8 []) := hk8
  clear hk8
  have M3n : Hid (MksAt w8 v3 X) := M3.out.below hb8
  clear M3
  have M3 := M3n
  clear M3n
  have D2n : Hid (DtsAt w8 v2 (dotsAt l sp)) := D2.out.below hb8
  clear D2
  have D2 := D2n
  clear D2n
  have D6n : Hid (DtsAt w8 v6 (dotsAt X sp)) := D6.out.below hb8
  clear D6
  have D6 := D6n
  clear D6n
  have M7n : Hid (MksAt w8 v7 (without X sp (dotsAt X sp))) := M7.out.below hb8
  clear M7
  have M7 := M7n
  clear M7n
  clear hb8 C8 g0 g1 g2
  have g0 := g0'
  have g1 := g1'
  have g2 := g2'
  clear g0' g1' g2'
  obtain ⟨q3, c3, hv3, _⟩ := M3.out
  obtain ⟨q6, c6, hv6, _⟩ := D6.out
  obtain ⟨q7, c7, hv7, _⟩ := M7.out
  obtain ⟨q8, c8, hv8, _⟩ := D8.out
  obtain ⟨n3, hn3⟩ : ∃ n3, n3 = X.length := ⟨_, rfl⟩
  obtain ⟨n6, hn6⟩ : ∃ n6, n6 = (dotsAt X sp).length := ⟨_, rfl⟩
  obtain ⟨n7, hn7⟩ : ∃ n7, n7 = (without X sp (dotsAt X sp)).length := ⟨_, rfl⟩
  have hsum : n7 + n6 = n3 := by rw [hn3, hn6, hn7]; exact HLN.out.1
  have hsmall : n3 ≤ 40 := by rw [hn3]; exact HLN.out.2
  rw [← hn3] at hv3
  rw [← hn6] at hv6
  rw [← hn7] at hv7
  subst hv3 hv6 hv7 hv8
  have hsumz : ((n7 : Int) + (n6 : Int)) = (n3 : Int) := by omega
  have hsumb : (((n7 : Int) + (n6 : Int)) != (n3 : Int)) = false := by rw [hsumz]; simp
  clear hn3 hn6 hn7 D6 M7 D8
  have C9 := HJ9.out w8 _ v2 M3.out D2.out
  go_wp2_with fail
  refine C9.mono ?_
  rintro e w9 ⟨v9, rfl, hk9, hb9⟩
  have KB9 : Hid (Below w.heap.size w w9) := bel KB8.out hb9
  have g0' := keep_cell hb9 g0
  have g1' := keep_cell hb9 g1
  have g2' := keep_cell hb9 g2
  have M9 : Hid (MksAt w9 v9 (without X sp (dotsAt l sp))) := hk9
  clear hk9 M3
  have D2n : Hid (DtsAt w9 v2 (dotsAt l sp)) := D2.out.below hb9
  clear D2
  have D2 := D2n
  clear D2n
  clear hb9 C9 g0 g1 g2
  have g0 := g0'
  have g1 := g1'
  have g2 := g2'
  clear g0' g1' g2'
  have C10 := HS10.out w9 v9 M9.out
  go_wp2_with fail
  refine C10.mono ?_
  rintro e w10 ⟨v10, rfl, hk10, hb10⟩
  have KB10 : Hid (Below w.heap.size w w10) := bel KB9.out hb10
  have g0' := keep_cell hb10 g0
  have g1' := keep_cell hb10 g1
  have g2' := keep_cell hb10 g2
  have D10 : Hid (DtsAt w10 v10 (if (p1, p2) ∈ dotsAt l sp then [] else [(p1, p2)])) := hk10
  clear hk10
  have D2n : Hid (DtsAt w10 v2 (dotsAt l sp)) := D2.out.below hb10
  clear D2
  have D2 := D2n
  clear D2n
  clear hb10 C10 g0 g1 g2
  have g0 := g0'
  have g1 := g1'
  have g2 := g2'
  clear g0' g1' g2'
  have C11 := HI11.out w10 v2 D2.out
  go_wp2_with fail
  refine C11.mono ?_
  rintro e w11 ⟨rfl, hb11⟩
  have KB11 : Hid (Below w.heap.size w w11) := bel KB10.out hb11
  have g0' := keep_cell hb11 g0
  have g1' := keep_cell hb11 g1
  have g2' := keep_cell hb11 g2
  have D11 : Hid (DtsAt w11 v10 (if (p1, p2) ∈ dotsAt l sp then [] else [(p1, p2)])) := D10.out.below hb11
  clear D10 D2
  clear hb11 C11 g0 g1 g2
  have g0 := g0'
  have g1 := g1'
  have g2 := g2'
  clear g0' g1' g2'
  by_cases hin : (p1, p2) ∈ dotsAt l sp
  · rw [if_pos hin] at D11
    rw [decide_eq_true hin]
    obtain ⟨q10, c10, hv10, _⟩ := D11.out
    subst hv10
    clear hin D11
    go_wp2_with fail
    go_quiet (fail)
    go_wp2_with fail
    go_ret
    exact ⟨rfl, bel_drew KB11.out _⟩
  · rw [if_neg hin] at D11
    rw [decide_eq_false hin]
    obtain ⟨q10, c10, hv10, hd10, _⟩ := D11.out
    subst hv10
    obtain ⟨b10, o10, hq10, hc10⟩ := hd10.some (by simp)
    subst hq10
    obtain ⟨z1, z2⟩ := hc10 0 (by simp)
    simp only [Nat.zero_mul, Nat.add_zero] at z1 z2
    have z1' : w11.cell? ⟨b10, o10, none⟩ = some (.int .i64 p1) := z1
    have z2' : w11.cell? ⟨b10, o10 + 1, none⟩ = some (.int .i64 p2) := z2
    have hq2 : ∀ w, (binOp .eql 24 (.agg #[.int .i64 p1, .int .i64 p2]) (.agg #[.int .i64 p1, .int .i64 p2])).run Try.prog w = .ok (.bool true) w := fun w => by rw [eql_dot]; simp
    have hg2 : Try.prog.eqGuardType Try.prog.depth 24 = false := by kernel_rfl
    clear hin D11 z1 z2 hc10 hd10
    go_wp2_with fail
    go_quiet (fail)
    go_wp2_with fail
    go_ret
    exact ⟨rfl, bel_drew KB11.out _⟩

end Nq
end Go.Proofs.Ytcmoajlcmeimiaa
