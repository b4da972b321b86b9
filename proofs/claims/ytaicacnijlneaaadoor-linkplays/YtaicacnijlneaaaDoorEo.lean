/- Package link: Hear. -/
import Derived.Test.YtaicacnijlneaaaDoorEn
namespace Go.Proofs.YtaicacnijlneaaaDoor
namespace Eo
set_option linter.unusedVariables false
set_option linter.unusedSimpArgs false
open Go.ChangeShapes Go.WideShapes Go.ChangeAt Go.RowKit Ka Kb Ec Ef Eg Em En

abbrev frV (f1 : Bool) (q : Int) (d : ByteArray) : Value := .agg #[.bool f1, .int .i64 q, .string d]
abbrev frO (f1 : Bool) (q : Int) (d : ByteArray) : Obj := .cells #[.bool f1, .int .i64 q, .string d] 38
theorem below_al (w : World) (O : Obj) : Below w.heap.size w (w.alloc O) := (Below.refl _ w).alloc (Nat.le_refl _) O
theorem ne_toList {d : ByteArray} (h : d.size ≠ 0) : (d.toList == []) = false := by
  have : d.toList ≠ [] := fun e => h (by
    rw [ByteArray.toList_eq] at e
    have e2 : d.data.toList.length = 0 := by rw [e]; rfl
    simpa using e2)
  simpa using this

theorem e0_empty : e0.toList.isEmpty = true := by rw [ByteArray.toList_eq]; rfl
set_option maxHeartbeats 2000000 in
theorem ack_low (X : Nat) (f1 : Bool) (q : Int) (d : ByteArray) (w : World) (a b k s t : Int) (u g : Value) (o : Bool) (lu lg : List ByteArray) (m : Raw w X a b u k s t g o lu lg) (h : q < 0) :
    Calls Tryd.prog 18 #[ptr X, frV f1 q d] w fun e w' => e = .returned (.iface 45 (.int .i64 1)) ∧ Below w.heap.size w w' := by
  have m1 := m.below (below_al w (frO f1 q d))
  have c4 := blk_cell m1.blk (i := 4) (u := .int .i64 s) rfl
  have b1 := blk_cell (heap_alloc_new w (frO f1 q d)) (i := 1) (u := .int .i64 q) rfl
  have HB := Hid.mk' (below_al w (frO f1 q d))
  have hq : decide (q < 0) = true := decide_eq_true h
  clear m m1 h
  go_enter Tryd.func18, Tryd.ntmps18
  go_wp2_with fail
  go_quiet (fail)
  go_wp2_with fail
  go_ret
  exact ⟨rfl, bel_drew HB.out _⟩
set_option maxHeartbeats 2000000 in
theorem ack_high (X : Nat) (f1 : Bool) (q : Int) (d : ByteArray) (w : World) (a b k s t : Int) (u g : Value) (o : Bool) (lu lg : List ByteArray) (m : Raw w X a b u k s t g o lu lg) (h1 : ¬ q < 0) (h2 : s < q) :
    Calls Tryd.prog 18 #[ptr X, frV f1 q d] w fun e w' => e = .returned (.iface 45 (.int .i64 1)) ∧ Below w.heap.size w w' := by
  have m1 := m.below (below_al w (frO f1 q d))
  have c4 := blk_cell m1.blk (i := 4) (u := .int .i64 s) rfl
  have b1 := blk_cell (heap_alloc_new w (frO f1 q d)) (i := 1) (u := .int .i64 q) rfl
  have HB := Hid.mk' (below_al w (frO f1 q d))
  have hq : decide (q < 0) = false := decide_eq_false h1
  have hq2 : decide (s < q) = true := decide_eq_true h2
  clear m m1 h1 h2
  go_enter Tryd.func18, Tryd.ntmps18
  go_wp2_with fail
  go_quiet (fail)
  go_wp2_with fail
  go_ret
  exact ⟨rfl, bel_drew HB.out _⟩
set_option maxHeartbeats 2000000 in
theorem ack_shape (X : Nat) (f1 : Bool) (q : Int) (d : ByteArray) (w : World) (a b k s t : Int) (u g : Value) (o : Bool) (lu lg : List ByteArray) (m : Raw w X a b u k s t g o lu lg) (h1 : ¬ q < 0) (h2 : ¬ s < q) (h3 : d.size ≠ 0) :
    Calls Tryd.prog 18 #[ptr X, frV f1 q d] w fun e w' => e = .returned (.iface 45 (.int .i64 3)) ∧ Below w.heap.size w w' := by
  have m1 := m.below (below_al w (frO f1 q d))
  have c4 := blk_cell m1.blk (i := 4) (u := .int .i64 s) rfl
  have b1 := blk_cell (heap_alloc_new w (frO f1 q d)) (i := 1) (u := .int .i64 q) rfl
  have b2 := blk_cell (heap_alloc_new w (frO f1 q d)) (i := 2) (u := .string d) rfl
  have HB := Hid.mk' (below_al w (frO f1 q d))
  have hq : decide (q < 0) = false := decide_eq_false h1
  have hq2 : decide (s < q) = false := decide_eq_false h2
  have hne := ne_toList h3
  clear m m1 h1 h2 h3
  go_enter Tryd.func18, Tryd.ntmps18
  go_wp2_with fail
  go_quiet (fail)
  go_wp2_with fail
  go_ret
  exact ⟨rfl, bel_drew HB.out _⟩
set_option maxHeartbeats 2000000 in
theorem ack_old (X : Nat) (f1 : Bool) (q : Int) (w : World) (a b k s t : Int) (u g : Value) (o : Bool) (lu lg : List ByteArray) (m : Raw w X a b u k s t g o lu lg) (h1 : ¬ q < 0) (h2 : ¬ s < q) (h3 : ¬ k < q) :
    Calls Tryd.prog 18 #[ptr X, frV f1 q e0] w fun e w' => e = .returned .nilIface ∧ Below w.heap.size w w' := by
  have m1 := m.below (below_al w (frO f1 q e0))
  have c4 := blk_cell m1.blk (i := 4) (u := .int .i64 s) rfl
  have c3 := blk_cell m1.blk (i := 3) (u := .int .i64 k) rfl
  have b1 := blk_cell (heap_alloc_new w (frO f1 q e0)) (i := 1) (u := .int .i64 q) rfl
  have b2 := blk_cell (heap_alloc_new w (frO f1 q e0)) (i := 2) (u := .string e0) rfl
  have HB := Hid.mk' (below_al w (frO f1 q e0))
  have hq : decide (q < 0) = false := decide_eq_false h1
  have hq2 : decide (s < q) = false := decide_eq_false h2
  have hq3 : decide (k < q) = false := decide_eq_false h3
  have he0 := e0_empty
  clear m m1 h1 h2 h3
  go_enter Tryd.func18, Tryd.ntmps18
  go_wp2_with fail
  go_quiet (fail)
  go_wp2_with fail
  go_quiet (fail)
  go_wp2_with fail
  go_ret
  exact ⟨rfl, bel_drew (bel_drew HB.out _) _⟩

/- the call of a function of three arguments, at a step of a region that draws -/
theorem step_call3 {ops : Array Oper} {o : Oper} {a : Act} {W : World} {K : Act → World → Prop} {Q : Exit → Act → World → Prop} {E : Prop} {R : Value → World → Prop} (hgd : o.guard = none) (F : FuncId) (x y z : Operand) (T U V : TypeId)
    (ho : o.op = .call { callee := .value (.func F), args := #[x, y, z], argTypes := #[T, U, V] }) (v0 v1 v2 : Value) (hx : a.eval x = v0) (hy : a.eval y = v1) (hz : a.eval z = v2) (hcf : ∀ args W, (callFunc F args).run Tryd.prog W = .ok (.enter F args) W) (hC : Calls Tryd.prog F #[v0, v1, v2] W fun e w' => ∃ v, e = .returned v ∧ R v w')
    (h : ∀ v w', R v w' → K (a.put o.dst v) w') :
    if Region.wanted o (yielded ops a.tmps) = true then Oper.wp Tryd.prog o a W K Q else E := by
  have hw : Region.wanted o (yielded ops a.tmps) = true := by simp [Region.wanted, hgd]
  rw [if_pos hw]
  have hr : (execOp a.eval o).run Tryd.prog W = .ok (.enter F #[v0, v1, v2]) W := by
    have he : a.eval (.func F) = .func (.func F) #[] #[] := rfl
    unfold execOp
    simp only [ho, resolve, invoke, List.map_toArray, List.map_cons, List.map_nil, hx, hy, hz, he]
    exact hcf _ _
  unfold Oper.wp
  rw [hr, Oper.upon_enter]
  refine hC.mono ?_
  rintro e w' ⟨v, rfl, hR⟩
  exact h v w' hR
theorem enter_del (args : Array Value) (W : World) : (callFunc 21 args).run Tryd.prog W = .ok (.enter 21 args) W := by
  first | kernel_rfl | simp [callFunc, go_sem, Tryd.func21]

set_option maxHeartbeats 2000000 in
theorem ack_new (X : Nat) (f1 : Bool) (q : Int) (w : World) (a b k s t : Int) (p : Option Addr) (n c : Nat) (g : Value) (o : Bool) (lu lg : List ByteArray) (m : Raw w X a b (.slice p n c) k s t g o lu lg) (kk : Nat) (h0 : 0 ≤ k) (h1 : ¬ q < 0) (h2 : ¬ s < q) (h3 : k < q) (hkk : q - k = kk) (hkn : kk ≤ lu.length) (hq9 : q ≤ 1000) :
    Calls Tryd.prog 18 #[ptr X, frV f1 q e0] w fun e w' => e = .returned .nilIface ∧ ∃ u', Raw w' X a b u' q s t g o (lu.drop kk) lg ∧ Chg (Fs X (.slice p n c) g) w w' ∧ ∀ k, Fs X u' g k → Fs X (.slice p n c) g k ∨ w.heap.size ≤ k := by
  obtain ⟨p9, n9, c9, e9, hn⟩ := own_shape m.ru
  injection e9 with e1 e2 e3
  subst e1 e2 e3
  have m1 := m.below (below_al w (frO f1 q e0))
  have c4 := blk_cell m1.blk (i := 4) (u := .int .i64 s) rfl
  have c3 := blk_cell m1.blk (i := 3) (u := .int .i64 k) rfl
  have b1 := blk_cell (heap_alloc_new w (frO f1 q e0)) (i := 1) (u := .int .i64 q) rfl
  have b2 := blk_cell (heap_alloc_new w (frO f1 q e0)) (i := 2) (u := .string e0) rfl
  have HB := Hid.mk' (below_al w (frO f1 q e0))
  have hq : decide (q < 0) = false := decide_eq_false h1
  have hq2 : decide (s < q) = false := decide_eq_false h2
  have hq3 : decide (k < q) = true := decide_eq_true h3
  have he0 := e0_empty
  have HNW := Hid.mk' (heap_alloc_new w (frO f1 q e0))
  have HM := Hid.mk' m
  have HM1 := Hid.mk' m1
  have HN := Hid.mk' hn.out
  have HKK : Hid (0 < kk ∧ kk ≤ n) := ⟨by omega, by rw [hn.out]; exact hkn⟩
  have hwr : IntKind.i64.wrap (q - k) = kk := by rw [wrap_in (by omega) (by omega)]; exact hkk
  obtain ⟨gu, rfl⟩ : ∃ gu, p = some ⟨gu, 0, none⟩ := by
    rcases m.ru.2 with ⟨e, e0⟩ | ⟨g', cap, cur, e, _⟩
    · exact absurd e0 (by omega)
    · injection e with e1; exact ⟨g', e1⟩
  clear m m1 hkk hkn h0 h1 h2 h3 hn
  go_enter Tryd.func18, Tryd.ntmps18
  go_wp2_with fail
  go_quiet (fail)
  go_wp2_with fail
  go_quiet (fail)
  go_wp2_with fail
  generalize hwq : World.drewN (World.drewN _ _) _ = wq
  have HBQ : Hid (Below w.heap.size w wq) := by rw [Hid, ← hwq]; exact bel_drew (bel_drew HB.out _) _
  have HMQ : Hid (Raw wq X a b (.slice (some ⟨gu, 0, none⟩) n c) k s t g o lu lg) := HM.out.below HBQ.out
  have HNQ : Hid (wq.heap[w.heap.size]? = some (frO f1 q e0)) := by rw [Hid, ← hwq]; exact HNW.out
  have d2 := blk_cell HMQ.out.blk (i := 2) (u := .slice (some ⟨gu, 0, none⟩) n c) rfl
  have d3 := blk_cell HMQ.out.blk (i := 3) (u := .int .i64 k) rfl
  have x1 := blk_cell HNQ.out (i := 1) (u := .int .i64 q) rfl
  have HXW : Hid (X < w.heap.size) := HM.out.lt X (Or.inl rfl)
  have HXL : Hid (X < wq.heap.size) := HMQ.out.lt X (Or.inl rfl)
  have HXG : Hid (¬ some gu = some X) := fun e => no_end HM.out.ru HM.out.blk X e rfl
  have HYL : Hid (w.heap.size < wq.heap.size) := (Array.getElem?_eq_some_iff.1 HNQ.out).1
  have HYG : Hid (¬ some gu = some w.heap.size) := fun e => by
    injection e with e
    have h9 : gu < w.heap.size := HM.out.lt gu (Or.inr (Or.inl rfl))
    omega
  have HXY : Hid (X ≠ w.heap.size) := Nat.ne_of_lt HXW.out
  clear hwq c4 c3 b1 b2 hq hq2 hq3 he0 HNW HM1 HB
  go_region_law (
    (refine step_call3 (R := fun v w' => v = .slice (some ⟨gu, 0, none⟩) (n - kk) c ∧ RowT 0 w' (.slice (some ⟨gu, 0, none⟩) (n - kk) c) (lu.drop kk) ∧ Chg (fun x => some gu = some x) wq.drew w') (by rfl) 21 (.tmp 33) (.const (.int .i64 0)) (.tmp 40) _ _ _ (by rfl) _ _ _ (by rfl) (by rfl) (by rfl) enter_del ((del_first gu c n kk lu wq.drew HMQ.out.ru HN.out.symm HKK.out.1 HKK.out.2).mono (by rintro e w' ⟨rfl, r1, r2⟩; exact ⟨_, rfl, rfl, r1, r2⟩)) ?_; rintro v7 w7 ⟨rfl, hr7, hc7⟩; have HR7 := Hid.mk' hr7; have HC7 : Hid (Chg (fun x => some gu = some x) wq w7) := ⟨hc7.os, hc7.tape, hc7.output, hc7.size, hc7.block⟩; have hb7 := (HC7.out.block X HXL.out HXG.out).trans HMQ.out.blk; have q7 := blk_cell hb7 (i := 2) (u := .slice (some ⟨gu, 0, none⟩) n c) rfl; have fq7 := blk_free hb7 (i := 2); have y7 := blk_cell ((HC7.out.block w.heap.size HYL.out HYG.out).trans HNQ.out) (i := 1) (u := .int .i64 q) rfl; clear hr7 hc7 hb7))
  all_goals
    generalize hw8 : World.setCell w7 _ _ = w8
    obtain ⟨r1, r2, r3⟩ := HMQ.out.set_u (u' := .slice (some ⟨gu, 0, none⟩) (n - kk) c) HC7.out HR7.out (fun k hk => Or.inl hk)
    rw [hw8] at r1 r2
    have z8 : w8.cell? ⟨w.heap.size, 1, none⟩ = some (.int .i64 q) := by rw [← hw8, World.cell?_setCell_far _ _ _ _ HXY.out]; exact y7
    have c8 := blk_cell r1.blk (i := 3) (u := .int .i64 k) rfl
    have f8 := blk_free r1.blk (i := 3)
    have HR8 := Hid.mk' r1
    have HC8 := Hid.mk' r2
    have HF8 := Hid.mk' r3
    clear hw8 r1 r2 r3 q7 fq7 y7
    go_wp2_with fail
    go_ret
    refine ⟨rfl, .slice (some ⟨gu, 0, none⟩) (n - kk) c, HR8.out.num rfl, Chg.setCell (F := Fs X (.slice (some ⟨gu, 0, none⟩) n c) g) ((Chg.ofBelow HBQ.out _).trans HC8.out) (p := ⟨X, 3, none⟩) (Or.inl rfl) _, fun k hk => ?_⟩
    exact (HF8.out k hk).imp id (fun e => Nat.le_trans HBQ.out.size e)

theorem hear_true (X : Nat) (q : Int) (d : ByteArray) (w : World) (R : Value → World → Prop) (C : Calls Tryd.prog 18 #[ptr X, frV true q d] (w.alloc (frO true q d)) fun e w' => ∃ v, e = .returned v ∧ R v w') :
    Calls Tryd.prog 12 #[ptr X, frV true q d] w fun e w' => ∃ v, e = .returned v ∧ R v w' := by
  have b0 := blk_cell (heap_alloc_new w (frO true q d)) (i := 0) (u := .bool true) rfl
  have b1 := blk_cell (heap_alloc_new w (frO true q d)) (i := 1) (u := .int .i64 q) rfl
  have b2 := blk_cell (heap_alloc_new w (frO true q d)) (i := 2) (u := .string d) rfl
  go_enter Tryd.func12, Tryd.ntmps12
  go_wp2_with fail
  refine C.mono ?_
  rintro e w1 ⟨v1, rfl, hr1⟩
  have HR := Hid.mk' hr1
  clear hr1
  go_wp2_with fail
  go_ret
  exact ⟨_, rfl, HR.out⟩
theorem hear_low (X : Nat) (q : Int) (d : ByteArray) (w : World) (h : q < 1) :
    Calls Tryd.prog 12 #[ptr X, frV false q d] w fun e w' => e = .returned (.iface 45 (.int .i64 1)) ∧ Below w.heap.size w w' := by
  have b0 := blk_cell (heap_alloc_new w (frO false q d)) (i := 0) (u := .bool false) rfl
  have b1 := blk_cell (heap_alloc_new w (frO false q d)) (i := 1) (u := .int .i64 q) rfl
  have b2 := blk_cell (heap_alloc_new w (frO false q d)) (i := 2) (u := .string d) rfl
  go_enter Tryd.func12, Tryd.ntmps12
  go_wp2_with fail
  go_ret
  exact ⟨rfl, below_al _ _⟩
theorem hear_long (X : Nat) (q : Int) (d : ByteArray) (w : World) (h : ¬ q < 1) (hd : 200 < d.size) (hdm : d.size ≤ maxLen) :
    Calls Tryd.prog 12 #[ptr X, frV false q d] w fun e w' => e = .returned (.iface 45 (.int .i64 4)) ∧ Below w.heap.size w w' := by
  have b0 := blk_cell (heap_alloc_new w (frO false q d)) (i := 0) (u := .bool false) rfl
  have b1 := blk_cell (heap_alloc_new w (frO false q d)) (i := 1) (u := .int .i64 q) rfl
  have b2 := blk_cell (heap_alloc_new w (frO false q d)) (i := 2) (u := .string d) rfl
  have hdz : (200 : Int) < d.size := by omega
  have hdm2 : (d.size : Int) ≤ 9223372036854775807 := by unfold maxLen at hdm; omega
  clear hdm hd
  go_enter Tryd.func12, Tryd.ntmps12
  go_wp2_with fail
  go_ret
  exact ⟨rfl, below_al _ _⟩
/- append of one text to a row of the end's own, at a step of a region that draws -/
theorem step_putT {ops : Array Oper} {o : Oper} {a : Act} {W : World} {K : Act → World → Prop} {Q : Exit → Act → World → Prop} {E : Prop} (hgd : o.guard = none) (sO xO : Operand)
    (ho : o.op = .call { callee := .builtin .append, args := #[sO, xO], argTypes := #[23, 23] })
    (v : Value) (l : List ByteArray) (x : ByteArray) (hs : a.eval sO = v) (h0 : Nat) (hx : a.eval xO = .slice (some ⟨h0, 0, none⟩) 1 1)
    (hlen : l.length + 1 ≤ 1048576) (hown : RowT 0 W v l) (hc0 : W.heap[h0]? = some (.cells #[.string x] 9))
    (h : ∀ v' w', RowT 0 w' v' (l ++ [x]) → W.grownBy w' v.ownBlock → (v'.ownBlock = v.ownBlock ∨ v'.ownBlock = some W.heap.size) → K (a.put o.dst v') w') :
    if Region.wanted o (yielded ops a.tmps) = true then Oper.wp Tryd.prog o a W K Q else E := by
  have hw : Region.wanted o (yielded ops a.tmps) = true := by simp [Region.wanted, hgd]
  rw [if_pos hw]
  obtain ⟨i0, hi, hz0, hz1, hz2⟩ := info_parts infoS
  obtain ⟨v', w', hr, h2, h3, _, h5⟩ := run_append_own_at (P := Tryd.prog) W 0 23 o.type 9 i0 (.string ByteArray.empty) 1 16 Tryd.underlying23 hi hz0 hz1 hz2 rfl (by decide) v l.length (l.map Value.string) hown ⟨h0, 0, none⟩ 1 1 [.string x] rfl (by
    intro j u hu
    rw [Addr.add_lit, Nat.zero_add]
    rcases j with _ | j
    · rw [blk_cell hc0 (i := 0) rfl]; exact hu
    · simp at hu) (by intro u hu; rw [List.mem_singleton.1 hu]; rfl) (by unfold maxLen; omega) (by omega) (Nat.zero_le _)
  unfold Oper.wp execOp
  simp only [ho, resolve, invoke, builtin, Sem.run_bind, Sem.run_pure, Result.andThen_ok, List.map_toArray, List.map_cons, List.map_nil, hs, hx, hr]
  refine h v' w' ?_ h3 h5
  unfold RowT
  rw [List.length_append, List.map_append]
  exact h2
set_option maxHeartbeats 2000000 in
theorem hear_other (X : Nat) (q : Int) (d : ByteArray) (w : World) (a b k s t : Int) (u g : Value) (o : Bool) (lu lg : List ByteArray) (m : Raw w X a b u k s t g o lu lg) (h : ¬ q < 1) (hd : d.size ≤ 200) (hq : q ≠ (lg.length : Int) + 1) (hl : lg.length ≤ 1000) :
    Calls Tryd.prog 12 #[ptr X, frV false q d] w fun e w' => e = .returned .nilIface ∧ Raw w' X a b u k s t g true lu lg ∧ Chg (Fs X u g) w w' := by
  obtain ⟨p, n, c, rfl, hn⟩ := own_shape m.rg
  have b0 := blk_cell (heap_alloc_new w (frO false q d)) (i := 0) (u := .bool false) rfl
  have b1 := blk_cell (heap_alloc_new w (frO false q d)) (i := 1) (u := .int .i64 q) rfl
  have b2 := blk_cell (heap_alloc_new w (frO false q d)) (i := 2) (u := .string d) rfl
  have m1 := m.below (below_al w (frO false q d))
  have c7 := blk_cell m1.blk (i := 7) (u := .bool o) rfl
  have f7 := blk_free m1.blk (i := 7)
  have hdz : ¬ (200 : Int) < d.size := by omega
  have hn9 : n ≤ 1000 := by rw [hn.out]; exact hl
  have hqe : (q == (n : Int) + 1) = false := by rw [hn.out]; simpa using hq
  have hwr : IntKind.i64.wrap ((n : Int) + 1) = (n : Int) + 1 := wrap_in (by omega) (by omega)
  have HXW : Hid (X ≠ w.heap.size) := Nat.ne_of_lt (m.lt X (Or.inl rfl))
  have HM1 := Hid.mk' m1
  have HNW := Hid.mk' (heap_alloc_new w (frO false q d))
  clear m m1 hl hn hq hd
  go_enter Tryd.func12, Tryd.ntmps12
  go_wp2_with fail
  generalize hw2 : World.setCell _ _ _ = w2
  have m2 : Raw w2 X a b u k s t (.slice p n c) true lu lg := by rw [← hw2]; exact HM1.out.num rfl
  have HC2 : Hid (Chg (Fs X u (.slice p n c)) w w2) := by rw [Hid, ← hw2]; exact Chg.setCell (F := Fs X u (.slice p n c)) (Chg.ofBelow (below_al _ _) _) (p := ⟨X, 7, none⟩) (Or.inl rfl) _
  have x2 := blk_cell (show w2.heap[w.heap.size]? = some (frO false q d) by rw [← hw2, set_block _ _ _ _ (Ne.symm HXW.out)]; exact HNW.out) (i := 1) (u := .int .i64 q) rfl
  have x6 := blk_cell m2.blk (i := 6) (u := .slice p n c) rfl
  have HM2 := Hid.mk' m2
  clear hw2 m2 c7 f7 b0 b1 b2 HM1 HNW
  go_wp2_with fail
  go_quiet (fail)
  go_wp2_with fail
  go_ret
  exact ⟨rfl, HM2.out.heap rfl, HC2.out.trans (Chg.ofBelow (bel_drew (Below.refl _ _) _) _)⟩

end Eo
end Go.Proofs.YtaicacnijlneaaaDoor
