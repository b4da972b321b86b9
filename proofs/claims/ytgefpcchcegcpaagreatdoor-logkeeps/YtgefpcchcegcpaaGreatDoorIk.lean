/- What a doc's Apply answers. -/
import Derived.Test.YtgefpcchcegcpaaGreatDoorIj
namespace Go.Proofs.YtgefpcchcegcpaaGreatDoor
namespace Ik
set_option linter.unusedVariables false
open Go.ChangeShapes Go.WideShapes Go.ChangeAt Go.RowKit Cm Ka Kb Na Om Oa Oz Oc Og Oi Hm Ia Ib Ic Idc Ie If Ig Ih Ii Ij
open La (bel bel_drew errV_zero errV_ne own_ge own_grow own_below Lies)

theorem step_call1 {ops : Array Oper} {o : Oper} {a : Act} {W : World} {K : Act → World → Prop} {Q : Exit → Act → World → Prop} {E : Prop} {R : Value → World → Prop} (hgd : o.guard = none) (F : FuncId) (x : Operand) (T : TypeId)
    (ho : o.op = .call { callee := .value (.func F), args := #[x], argTypes := #[T] }) (v0 : Value) (hx : a.eval x = v0) (hcf : ∀ args W, (callFunc F args).run Tryz.prog W = .ok (.enter F args) W) (hC : Calls Tryz.prog F #[v0] W fun e w' => ∃ v, e = .returned v ∧ R v w')
    (h : ∀ v w', R v w' → K (a.put o.dst v) w') :
    if Region.wanted o (yielded ops a.tmps) = true then Oper.wp Tryz.prog o a W K Q else E := by
  have hw : Region.wanted o (yielded ops a.tmps) = true := by simp [Region.wanted, hgd]
  rw [if_pos hw]
  have hr : (execOp a.eval o).run Tryz.prog W = .ok (.enter F #[v0]) W := by
    have he : a.eval (.func F) = .func (.func F) #[] #[] := rfl
    unfold execOp
    simp only [ho, resolve, invoke, List.map_toArray, List.map_cons, List.map_nil, hx, he]
    exact hcf _ _
  unfold Oper.wp
  rw [hr, Oper.upon_enter]
  refine hC.mono ?_
  rintro e w' ⟨v, rfl, hR⟩
  exact h v w' hR
theorem set_ops_blk {w w' : World} {D : Nat} {o : Obj} {r : Option Nat} (h : w.heap[D]? = some o) (hg : w.grownBy w' r) (hne : r = some D → False) : w'.heap[D]? = some o := by
  rw [hg.block D (Array.getElem?_eq_some_iff.1 h).1 (fun e => hne e.symm)]; exact h
theorem enter_copy (args : Array Value) (W : World) : (callFunc 43 args).run Tryz.prog W = .ok (.enter 43 args) W := by
  first | kernel_rfl | simp [callFunc, go_sem, Tryz.func43]

set_option maxRecDepth 100000 in
set_option maxHeartbeats 4000000 in
theorem behind_wrong (m : Mem) (S : Dq) (G : Nat → Prop) (a b t : Int) (p : ByteArray) (c : Int) (vs : Value) (s : List Dt) (w : World) (h : DocOk w m S G) (hd : DtsAt w vs s) (hp : p.size ≤ maxLen) (k : Int) (ho : opE ((a, b), t, p, c, s) = k) (h0 : k ≠ 0) :
    Calls Tryz.prog 41 #[.pointer (some ⟨m.D, 0, none⟩), .agg #[.int .i64 a, .int .i64 b, .int .i64 t, .string p, .int .i64 c, vs]] w (BePost w S G ((a, b), t, p, c, s)) := by
  have HB1 : Hid (Below w.heap.size w ((w.alloc (.cells #[.int .i64 a, .int .i64 b, .int .i64 t, .string p, .int .i64 c, vs] 34)).alloc (.cells #[.slice none 0 0, .slice none 0 0, .slice none 0 0] 71))) := ((Below.refl _ w).alloc (Nat.le_refl _) _).alloc (by simp) _
  have H6 : Hid (Six ((w.alloc (.cells #[.int .i64 a, .int .i64 b, .int .i64 t, .string p, .int .i64 c, vs] 34)).alloc (.cells #[.slice none 0 0, .slice none 0 0, .slice none 0 0] 71)) w.heap.size a b t p c vs) := (six_new w a b t p c vs 34).below ((Below.refl _ _).alloc (Nat.le_refl _) _)
  have HT1 : Hid (Ct ((w.alloc (.cells #[.int .i64 a, .int .i64 b, .int .i64 t, .string p, .int .i64 c, vs] 34)).alloc (.cells #[.slice none 0 0, .slice none 0 0, .slice none 0 0] 71)) (w.heap.size + 1)) := ct_new w _
  have CCk : Hid (∀ W, Below w.heap.size w W → Calls Tryz.prog 57 #[.agg #[.int .i64 a, .int .i64 b, .int .i64 t, .string p, .int .i64 c, vs]] W fun e w' => e = .returned (errV (opE ((a, b), t, p, c, s))) ∧ Below W.heap.size W w') := fun W hb => Vc.check_says a b t p c vs s W (hd.below hb) hp
  have HN : Hid (isNew S ((a, b), t, p, c, s) = false) := by unfold Hid isNew; rw [ho, decide_eq_false h0]; rfl
  have HE : Hid (errV (apE S ((a, b), t, p, c, s)) = .iface 64 (.int .i64 k)) := by unfold Hid apE; rw [ho, if_pos h0, errV_ne h0]
  rw [ho] at CCk
  simp only [errV_ne h0] at CCk
  obtain ⟨D, hD⟩ : ∃ D, D = m.D := ⟨_, rfl⟩
  have HD : Hid (D = m.D) := hD
  rw [← hD]
  clear h hd hp ho h0 hD
  go_enter Tryz.func41, Tryz.ntmps41
  obtain ⟨o0, o1, o2, o3, o4, o5⟩ := H6.out
  go_wp2_with fail
  refine (CCk.out _ HB1.out).mono ?_
  rintro e w2 ⟨rfl, hb2⟩
  have HB2 : Hid (Below w.heap.size w w2) := bel HB1.out hb2
  have HT2 : Hid (Ct w2 (w.heap.size + 1)) := keep_heap hb2 HT1.out
  clear hb2 CCk
  have c0 := blk_cell HT2.out (i := 0) (u := .slice none 0 0) rfl
  have c1 := blk_cell HT2.out (i := 1) (u := .slice none 0 0) rfl
  have c2 := blk_cell HT2.out (i := 2) (u := .slice none 0 0) rfl
  have f0 := blk_free HT2.out (i := 0)
  have f1 := blk_free HT2.out (i := 1)
  have f2 := blk_free HT2.out (i := 2)
  go_wp2_with fail
  try simp only [Exit.inBlock, Exit.then]
  refine bodyPost_ret (v := .tuple #[.agg #[.slice none 0 0, .slice none 0 0, .slice none 0 0], .bool false, .iface 64 (.int .i64 k)]) ?_ rfl (BePost.no HN.out HE.out (set3_below HB2.out (by omega) _ _ _))
  simp [results, Tryz.results41, go_sem, asAddr, Result.andThen, c0, c1, c2]

set_option maxRecDepth 100000 in
set_option maxHeartbeats 4000000 in
theorem behind_known (m : Mem) (S : Dq) (G : Nat → Prop) (a b t : Int) (p : ByteArray) (c : Int) (vs : Value) (s : List Dt) (w : World) (h : DocOk w m S G) (hd : DtsAt w vs s) (hp : p.size ≤ maxLen) (ho : opE ((a, b), t, p, c, s) = 0) (hk : Dm.hasB S.known a b = true) (hkn : b ≤ kn S a) :
    Calls Tryz.prog 41 #[.pointer (some ⟨m.D, 0, none⟩), .agg #[.int .i64 a, .int .i64 b, .int .i64 t, .string p, .int .i64 c, vs]] w (BePost w S G ((a, b), t, p, c, s)) := by
  have HB1 : Hid (Below w.heap.size w ((w.alloc (.cells #[.int .i64 a, .int .i64 b, .int .i64 t, .string p, .int .i64 c, vs] 34)).alloc (.cells #[.slice none 0 0, .slice none 0 0, .slice none 0 0] 71))) := ((Below.refl _ w).alloc (Nat.le_refl _) _).alloc (by simp) _
  have H6 : Hid (Six ((w.alloc (.cells #[.int .i64 a, .int .i64 b, .int .i64 t, .string p, .int .i64 c, vs] 34)).alloc (.cells #[.slice none 0 0, .slice none 0 0, .slice none 0 0] 71)) w.heap.size a b t p c vs) := (six_new w a b t p c vs 34).below ((Below.refl _ _).alloc (Nat.le_refl _) _)
  have HT1 : Hid (Ct ((w.alloc (.cells #[.int .i64 a, .int .i64 b, .int .i64 t, .string p, .int .i64 c, vs] 34)).alloc (.cells #[.slice none 0 0, .slice none 0 0, .slice none 0 0] 71)) (w.heap.size + 1)) := ct_new w _
  have CCk : Hid (∀ W, Below w.heap.size w W → Calls Tryz.prog 57 #[.agg #[.int .i64 a, .int .i64 b, .int .i64 t, .string p, .int .i64 c, vs]] W fun e w' => e = .returned (errV (opE ((a, b), t, p, c, s))) ∧ Below W.heap.size W w') := fun W hb => Vc.check_says a b t p c vs s W (hd.below hb) hp
  have HN : Hid (isNew S ((a, b), t, p, c, s) = false) := by
    unfold Hid
    cases h9 : isNew S ((a, b), t, p, c, s)
    · rfl
    · have := (isNew_iff.1 h9).2.1; simp only at this; omega
  have HE : Hid (errV (apE S ((a, b), t, p, c, s)) = .nilIface) := by unfold Hid apE; rw [if_neg (by simpa using ho), if_pos hkn]; rfl
  have CKn : Hid (∀ W, Below w.heap.size w W → Calls Tryz.prog 58 #[.pointer (some ⟨m.D, 0, none⟩), .agg #[.int .i64 a, .int .i64 b]] W fun e w' => e = .returned (.bool true) ∧ Below W.heap.size W w') := fun W hb => by
    have := knows_any m S G a b W (h.mem.below hb)
    rw [hk] at this; exact this
  rw [ho] at CCk
  simp only [errV_zero] at CCk
  obtain ⟨D, hD⟩ : ∃ D, D = m.D := ⟨_, rfl⟩
  have HD : Hid (D = m.D) := hD
  rw [← hD]
  rw [← hD] at CKn
  clear h hd hp ho hk hkn hD
  go_enter Tryz.func41, Tryz.ntmps41
  obtain ⟨o0, o1, o2, o3, o4, o5⟩ := H6.out
  go_wp2_with fail
  refine (CCk.out _ HB1.out).mono ?_
  rintro e w2 ⟨rfl, hb2⟩
  have HB2 : Hid (Below w.heap.size w w2) := bel HB1.out hb2
  have HT2 : Hid (Ct w2 (w.heap.size + 1)) := keep_heap hb2 HT1.out
  have HS2 : Hid (Six w2 w.heap.size a b t p c vs) := H6.out.below hb2
  clear hb2 o0 o1 o2 o3 o4 o5 CCk H6 HB1
  obtain ⟨o0, o1, o2, o3, o4, o5⟩ := HS2.out
  go_wp2_with fail
  refine (CKn.out w2 HB2.out).mono ?_
  rintro e w3 ⟨rfl, hb3⟩
  have HB3 : Hid (Below w.heap.size w w3) := bel HB2.out hb3
  have HT3 : Hid (Ct w3 (w.heap.size + 1)) := keep_heap hb3 HT2.out
  clear hb3 CKn
  have c0 := blk_cell HT3.out (i := 0) (u := .slice none 0 0) rfl
  have c1 := blk_cell HT3.out (i := 1) (u := .slice none 0 0) rfl
  have c2 := blk_cell HT3.out (i := 2) (u := .slice none 0 0) rfl
  have f0 := blk_free HT3.out (i := 0)
  have f1 := blk_free HT3.out (i := 1)
  have f2 := blk_free HT3.out (i := 2)
  go_wp2_with fail
  try simp only [Exit.inBlock, Exit.then]
  refine bodyPost_ret (v := .tuple #[.agg #[.slice none 0 0, .slice none 0 0, .slice none 0 0], .bool false, .nilIface]) ?_ rfl (BePost.no HN.out HE.out (set3_below HB3.out (by omega) _ _ _))
  simp [results, Tryz.results41, go_sem, asAddr, Result.andThen, c0, c1, c2]

set_option maxRecDepth 100000 in
set_option maxHeartbeats 4000000 in
theorem behind_state (m : Mem) (S : Dq) (G : Nat → Prop) (a b t : Int) (p : ByteArray) (c : Int) (vs : Value) (s : List Dt) (w : World) (h : DocOk w m S G) (hd : DtsAt w vs s) (hp : p.size ≤ maxLen) (ho : opE ((a, b), t, p, c, s) = 0) (hk : Dm.hasB S.known a b = false) (ha : Dm.addE S.known a b = 6) (hkn : kn S a < b - 1) :
    Calls Tryz.prog 41 #[.pointer (some ⟨m.D, 0, none⟩), .agg #[.int .i64 a, .int .i64 b, .int .i64 t, .string p, .int .i64 c, vs]] w (BePost w S G ((a, b), t, p, c, s)) := by
  have HB1 : Hid (Below w.heap.size w ((w.alloc (.cells #[.int .i64 a, .int .i64 b, .int .i64 t, .string p, .int .i64 c, vs] 34)).alloc (.cells #[.slice none 0 0, .slice none 0 0, .slice none 0 0] 71))) := ((Below.refl _ w).alloc (Nat.le_refl _) _).alloc (by simp) _
  have H6 : Hid (Six ((w.alloc (.cells #[.int .i64 a, .int .i64 b, .int .i64 t, .string p, .int .i64 c, vs] 34)).alloc (.cells #[.slice none 0 0, .slice none 0 0, .slice none 0 0] 71)) w.heap.size a b t p c vs) := (six_new w a b t p c vs 34).below ((Below.refl _ _).alloc (Nat.le_refl _) _)
  have HT1 : Hid (Ct ((w.alloc (.cells #[.int .i64 a, .int .i64 b, .int .i64 t, .string p, .int .i64 c, vs] 34)).alloc (.cells #[.slice none 0 0, .slice none 0 0, .slice none 0 0] 71)) (w.heap.size + 1)) := ct_new w _
  have CCk : Hid (∀ W, Below w.heap.size w W → Calls Tryz.prog 57 #[.agg #[.int .i64 a, .int .i64 b, .int .i64 t, .string p, .int .i64 c, vs]] W fun e w' => e = .returned (errV (opE ((a, b), t, p, c, s))) ∧ Below W.heap.size W w') := fun W hb => Vc.check_says a b t p c vs s W (hd.below hb) hp
  have HN : Hid (isNew S ((a, b), t, p, c, s) = false) := by
    unfold Hid
    cases h9 : isNew S ((a, b), t, p, c, s)
    · rfl
    · have := (isNew_iff.1 h9).2.1; simp only at this; omega
  have HE : Hid (errV (apE S ((a, b), t, p, c, s)) = .iface 64 (.int .i64 6)) := by unfold Hid apE; rw [if_neg (by simpa using ho), if_neg (show ¬ b ≤ kn S a by omega), if_pos hkn]; rfl
  have CKn : Hid (∀ W, Below w.heap.size w W → Calls Tryz.prog 58 #[.pointer (some ⟨m.D, 0, none⟩), .agg #[.int .i64 a, .int .i64 b]] W fun e w' => e = .returned (.bool false) ∧ Below W.heap.size W w') := fun W hb => by
    have := knows_any m S G a b W (h.mem.below hb)
    rw [hk] at this; exact this
  rw [ho] at CCk
  simp only [errV_zero] at CCk
  obtain ⟨pk, nk, ck, hvk⟩ : ∃ p n c, m.vk = .slice p n c := by obtain ⟨p, c, e, _⟩ := h.mem.known; exact ⟨_, _, _, e⟩
  obtain ⟨po, no, co, hvo⟩ : ∃ p n c, m.vo = .slice p n c := by obtain ⟨L, _, e, _⟩ := h.mem.ops; obtain ⟨p, n, c, e2, _⟩ := own_shape e; exact ⟨p, n, c, e2⟩
  obtain ⟨pb, nb, cb, hvb⟩ : ∃ p n c, m.vb = .slice p n c := by obtain ⟨p, c, e, _⟩ := h.mem.book; exact ⟨_, _, _, e⟩
  obtain ⟨pm, nm, cm, hvm⟩ : ∃ p n c, m.vm = .slice p n c := by obtain ⟨p, c, e, _⟩ := h.mem.marks; exact ⟨_, _, _, e⟩
  have HVO : Hid (m.vo = .slice po no co) := hvo
  have HVK : Hid (m.vk = .slice pk nk ck) := hvk
  have HNO : Hid (no = S.ops.length) := by
    obtain ⟨L, _, e, _⟩ := h.mem.ops
    obtain ⟨p, n, c, e2, e3⟩ := own_shape e
    rw [hvo] at e2
    injection e2 with _ e2 _
    exact e2.trans e3.out
  have HBL : Hid (∀ W, Below w.heap.size w W → W.heap[m.D]? = some (.cells #[.slice pb nb cb, .slice pm nm cm, .slice pk nk ck, .slice po no co, .map (some m.B)] 74)) := fun W hb => by
    have := (h.mem.below hb).blk
    rw [hvk, hvo, hvb, hvm] at this; exact this
  have CAd : Hid (∀ W, Below w.heap.size w W → Calls Tryz.prog 59 #[.slice pk nk ck, .agg #[.int .i64 a, .int .i64 b]] W fun e w' => e = .returned (.tuple #[.slice none 0 0, .iface 64 (.int .i64 6)]) ∧ Below W.heap.size W w') := fun W hb => by
    obtain ⟨q, cc, e, hi⟩ := h.mem.known
    rw [hvk] at e
    injection e with e1 e2 e3
    subst e1 e2 e3
    exact Dd.add_no pk _ ck S.known a b W rfl (hi.below hb) (by rw [ha]; decide) 6 ha
  obtain ⟨D, hD⟩ : ∃ D, D = m.D := ⟨_, rfl⟩
  have HD : Hid (D = m.D) := hD
  rw [← hD]
  rw [← hD] at CKn HBL
  clear h hd hp ho hk hkn ha hD hvk hvo hvb hvm
  go_enter Tryz.func41, Tryz.ntmps41
  obtain ⟨o0, o1, o2, o3, o4, o5⟩ := H6.out
  go_wp2_with fail
  refine (CCk.out _ HB1.out).mono ?_
  rintro e w2 ⟨rfl, hb2⟩
  have HB2 : Hid (Below w.heap.size w w2) := bel HB1.out hb2
  have HT2 : Hid (Ct w2 (w.heap.size + 1)) := keep_heap hb2 HT1.out
  have HS2 : Hid (Six w2 w.heap.size a b t p c vs) := H6.out.below hb2
  clear hb2 o0 o1 o2 o3 o4 o5 CCk H6 HB1
  obtain ⟨o0, o1, o2, o3, o4, o5⟩ := HS2.out
  go_wp2_with fail
  refine (CKn.out w2 HB2.out).mono ?_
  rintro e w3 ⟨rfl, hb3⟩
  have HB3 : Hid (Below w.heap.size w w3) := bel HB2.out hb3
  have HT3 : Hid (Ct w3 (w.heap.size + 1)) := keep_heap hb3 HT2.out
  have HS3 : Hid (Six w3 w.heap.size a b t p c vs) := HS2.out.below hb3
  clear hb3 o0 o1 o2 o3 o4 o5 CKn HS2 HB2
  obtain ⟨o0, o1, o2, o3, o4, o5⟩ := HS3.out
  have d2 := blk_cell (HBL.out w3 HB3.out) (i := 2) (u := .slice pk nk ck) rfl
  go_wp2_with fail
  go_region_held3 (fun W => W.cell? ⟨D, 2, none⟩ = some (.slice pk nk ck) ∧ W.cell? ⟨w.heap.size, 0, none⟩ = some (.int .i64 a) ∧ W.cell? ⟨w.heap.size, 1, none⟩ = some (.int .i64 b)) (first | (go_keep; done) | (refine ⟨keep_cell hb7 ?_, keep_cell hb7 ?_, keep_cell hb7 ?_⟩ <;> (go_split_ands; assumption))) (first
    | (go_at_call 59; refine (CAd.out _ HB3.out.drew).mono ?_; rintro e w4 ⟨rfl, hb7⟩; have HB4 : Hid (Below w.heap.size w w4) := bel HB3.out.drew hb7; have HT4 : Hid (Ct w4 (w.heap.size + 1)) := keep_heap (un_drew hb7) HT3.out))
  all_goals
    clear hb7
    have c0 := blk_cell HT4.out (i := 0) (u := .slice none 0 0) rfl
    have c1 := blk_cell HT4.out (i := 1) (u := .slice none 0 0) rfl
    have c2 := blk_cell HT4.out (i := 2) (u := .slice none 0 0) rfl
    have f0 := blk_free HT4.out (i := 0)
    have f1 := blk_free HT4.out (i := 1)
    have f2 := blk_free HT4.out (i := 2)
    go_wp2_with fail
    try simp only [Exit.inBlock, Exit.then]
    refine bodyPost_ret (v := .tuple #[.agg #[.slice none 0 0, .slice none 0 0, .slice none 0 0], .bool false, .iface 64 (.int .i64 6)]) ?_ rfl (BePost.no HN.out HE.out (set3_below HB4.out (by omega) _ _ _))
    simp [results, Tryz.results41, go_sem, asAddr, Result.andThen, c0, c1, c2]

set_option maxRecDepth 100000 in
set_option maxHeartbeats 4000000 in
theorem behind_full (m : Mem) (S : Dq) (G : Nat → Prop) (a b t : Int) (p : ByteArray) (c : Int) (vs : Value) (s : List Dt) (w : World) (h : DocOk w m S G) (hd : DtsAt w vs s) (hp : p.size ≤ maxLen) (ho : opE ((a, b), t, p, c, s) = 0) (hk : Dm.hasB S.known a b = false) (ha : Dm.addE S.known a b = 0) (hkn : kn S a + 1 = b) (hfull : 400 ≤ S.ops.length) :
    Calls Tryz.prog 41 #[.pointer (some ⟨m.D, 0, none⟩), .agg #[.int .i64 a, .int .i64 b, .int .i64 t, .string p, .int .i64 c, vs]] w (BePost w S G ((a, b), t, p, c, s)) := by
  have HB1 : Hid (Below w.heap.size w ((w.alloc (.cells #[.int .i64 a, .int .i64 b, .int .i64 t, .string p, .int .i64 c, vs] 34)).alloc (.cells #[.slice none 0 0, .slice none 0 0, .slice none 0 0] 71))) := ((Below.refl _ w).alloc (Nat.le_refl _) _).alloc (by simp) _
  have H6 : Hid (Six ((w.alloc (.cells #[.int .i64 a, .int .i64 b, .int .i64 t, .string p, .int .i64 c, vs] 34)).alloc (.cells #[.slice none 0 0, .slice none 0 0, .slice none 0 0] 71)) w.heap.size a b t p c vs) := (six_new w a b t p c vs 34).below ((Below.refl _ _).alloc (Nat.le_refl _) _)
  have HT1 : Hid (Ct ((w.alloc (.cells #[.int .i64 a, .int .i64 b, .int .i64 t, .string p, .int .i64 c, vs] 34)).alloc (.cells #[.slice none 0 0, .slice none 0 0, .slice none 0 0] 71)) (w.heap.size + 1)) := ct_new w _
  have CCk : Hid (∀ W, Below w.heap.size w W → Calls Tryz.prog 57 #[.agg #[.int .i64 a, .int .i64 b, .int .i64 t, .string p, .int .i64 c, vs]] W fun e w' => e = .returned (errV (opE ((a, b), t, p, c, s))) ∧ Below W.heap.size W w') := fun W hb => Vc.check_says a b t p c vs s W (hd.below hb) hp
  have HN : Hid (isNew S ((a, b), t, p, c, s) = false) := by
    unfold Hid
    cases h9 : isNew S ((a, b), t, p, c, s)
    · rfl
    · have := (isNew_iff.1 h9).2.2.1; omega
  have HE : Hid (errV (apE S ((a, b), t, p, c, s)) = .iface 64 (.int .i64 4)) := by unfold Hid apE; rw [if_neg (by simpa using ho), if_neg (show ¬ b ≤ kn S a by omega), if_neg (show ¬ kn S a < b - 1 by omega), if_pos hfull]; rfl
  have CKn : Hid (∀ W, Below w.heap.size w W → Calls Tryz.prog 58 #[.pointer (some ⟨m.D, 0, none⟩), .agg #[.int .i64 a, .int .i64 b]] W fun e w' => e = .returned (.bool false) ∧ Below W.heap.size W w') := fun W hb => by
    have := knows_any m S G a b W (h.mem.below hb)
    rw [hk] at this; exact this
  rw [ho] at CCk
  simp only [errV_zero] at CCk
  obtain ⟨pk, nk, ck, hvk⟩ : ∃ p n c, m.vk = .slice p n c := by obtain ⟨p, c, e, _⟩ := h.mem.known; exact ⟨_, _, _, e⟩
  obtain ⟨po, no, co, hvo⟩ : ∃ p n c, m.vo = .slice p n c := by obtain ⟨L, _, e, _⟩ := h.mem.ops; obtain ⟨p, n, c, e2, _⟩ := own_shape e; exact ⟨p, n, c, e2⟩
  obtain ⟨pb, nb, cb, hvb⟩ : ∃ p n c, m.vb = .slice p n c := by obtain ⟨p, c, e, _⟩ := h.mem.book; exact ⟨_, _, _, e⟩
  obtain ⟨pm, nm, cm, hvm⟩ : ∃ p n c, m.vm = .slice p n c := by obtain ⟨p, c, e, _⟩ := h.mem.marks; exact ⟨_, _, _, e⟩
  have HVO : Hid (m.vo = .slice po no co) := hvo
  have HVK : Hid (m.vk = .slice pk nk ck) := hvk
  have HNO : Hid (no = S.ops.length) := by
    obtain ⟨L, _, e, _⟩ := h.mem.ops
    obtain ⟨p, n, c, e2, e3⟩ := own_shape e
    rw [hvo] at e2
    injection e2 with _ e2 _
    exact e2.trans e3.out
  have HBL : Hid (∀ W, Below w.heap.size w W → W.heap[m.D]? = some (.cells #[.slice pb nb cb, .slice pm nm cm, .slice pk nk ck, .slice po no co, .map (some m.B)] 74)) := fun W hb => by
    have := (h.mem.below hb).blk
    rw [hvk, hvo, hvb, hvm] at this; exact this
  have CAd : Hid (∀ W, Below w.heap.size w W → Calls Tryz.prog 59 #[.slice pk nk ck, .agg #[.int .i64 a, .int .i64 b]] W fun e w' => ∃ g cap, e = .returned (.tuple #[.slice (some ⟨g, 0, none⟩) 8 cap, .nilIface]) ∧ Za.IntsIn w' (some ⟨g, 0, none⟩) (S.known.set (a - 1).toNat b) ∧ W.heap.size ≤ g ∧ Below W.heap.size W w') := fun W hb => by
    obtain ⟨q, cc, e, hi⟩ := h.mem.known
    rw [hvk] at e
    injection e with e1 e2 e3
    subst e1 e2 e3
    exact Dd.add_loc pk _ ck S.known a b W rfl (hi.below hb) ha
  have hfz : (400 : Int) ≤ no := by have := HNO.out; omega
  obtain ⟨D, hD⟩ : ∃ D, D = m.D := ⟨_, rfl⟩
  have HD : Hid (D = m.D) := hD
  rw [← hD]
  rw [← hD] at CKn HBL
  clear h hd hp ho hk hkn ha hD hvk hvo hvb hvm hfull
  go_enter Tryz.func41, Tryz.ntmps41
  obtain ⟨o0, o1, o2, o3, o4, o5⟩ := H6.out
  go_wp2_with fail
  refine (CCk.out _ HB1.out).mono ?_
  rintro e w2 ⟨rfl, hb2⟩
  have HB2 : Hid (Below w.heap.size w w2) := bel HB1.out hb2
  have HT2 : Hid (Ct w2 (w.heap.size + 1)) := keep_heap hb2 HT1.out
  have HS2 : Hid (Six w2 w.heap.size a b t p c vs) := H6.out.below hb2
  clear hb2 o0 o1 o2 o3 o4 o5 CCk H6 HB1
  obtain ⟨o0, o1, o2, o3, o4, o5⟩ := HS2.out
  go_wp2_with fail
  refine (CKn.out w2 HB2.out).mono ?_
  rintro e w3 ⟨rfl, hb3⟩
  have HB3 : Hid (Below w.heap.size w w3) := bel HB2.out hb3
  have HT3 : Hid (Ct w3 (w.heap.size + 1)) := keep_heap hb3 HT2.out
  have HS3 : Hid (Six w3 w.heap.size a b t p c vs) := HS2.out.below hb3
  clear hb3 o0 o1 o2 o3 o4 o5 CKn HS2 HB2
  obtain ⟨o0, o1, o2, o3, o4, o5⟩ := HS3.out
  have d2 := blk_cell (HBL.out w3 HB3.out) (i := 2) (u := .slice pk nk ck) rfl
  go_wp2_with fail
  go_region_held3 (fun W => W.cell? ⟨D, 2, none⟩ = some (.slice pk nk ck) ∧ W.cell? ⟨w.heap.size, 0, none⟩ = some (.int .i64 a) ∧ W.cell? ⟨w.heap.size, 1, none⟩ = some (.int .i64 b)) (first | (go_keep; done) | (refine ⟨keep_cell hb7 ?_, keep_cell hb7 ?_, keep_cell hb7 ?_⟩ <;> (go_split_ands; assumption))) (first
    | (go_at_call 59; refine (CAd.out _ HB3.out.drew).mono ?_; rintro e w4 ⟨gk, ck2, rfl, hk4, hgk, hb7⟩; have HB4 : Hid (Below w.heap.size w w4) := bel HB3.out.drew hb7; have HT4 : Hid (Ct w4 (w.heap.size + 1)) := keep_heap (un_drew hb7) HT3.out; have HK4 : Hid (Za.IntsIn w4 (some ⟨gk, 0, none⟩) (S.known.set (a - 1).toNat b)) := hk4; have HGK : Hid (w.heap.size + 1 < gk) := Nat.lt_of_lt_of_le HT3.out.lt hgk; have HS4 : Hid (Six w4 w.heap.size a b t p c vs) := HS3.out.below (un_drew hb7); clear hk4 hgk))
  all_goals
    clear hb7 o0 o1 o2 o3 o4 o5 d2 HS3 HB3 CAd
    have d3 := blk_cell (HBL.out w4 HB4.out) (i := 3) (u := .slice po no co) rfl
    obtain ⟨o0, o1, o2, o3, o4, o5⟩ := HS4.out
    have c0 := blk_cell HT4.out (i := 0) (u := .slice none 0 0) rfl
    have c1 := blk_cell HT4.out (i := 1) (u := .slice none 0 0) rfl
    have c2 := blk_cell HT4.out (i := 2) (u := .slice none 0 0) rfl
    have f0 := blk_free HT4.out (i := 0)
    have f1 := blk_free HT4.out (i := 1)
    have f2 := blk_free HT4.out (i := 2)
    go_wp2_with fail
    try simp only [Exit.inBlock, Exit.then]
    refine bodyPost_ret (v := .tuple #[.agg #[.slice none 0 0, .slice none 0 0, .slice none 0 0], .bool false, .iface 64 (.int .i64 4)]) ?_ rfl (BePost.no HN.out HE.out (set3_below HB4.out (by omega) _ _ _))
    simp [results, Tryz.results41, go_sem, asAddr, Result.andThen, c0, c1, c2]

set_option maxRecDepth 100000 in
set_option maxHeartbeats 4000000 in
theorem behind_no (m : Mem) (S : Dq) (G : Nat → Prop) (a b t : Int) (p : ByteArray) (c : Int) (vs : Value) (s : List Dt) (w : World) (h : DocOk w m S G) (hd : DtsAt w vs s) (hp : p.size ≤ maxLen) (ho : opE ((a, b), t, p, c, s) = 0) (hk : Dm.hasB S.known a b = false) (ha : Dm.addE S.known a b = 0) (hkn : kn S a + 1 = b) (hun : kn S a < b) (hfew : S.ops.length < 400) (k : Int) (hdo : doE S ((a, b), t, p, c, s) = k) (h0 : k ≠ 0) :
    Calls Tryz.prog 41 #[.pointer (some ⟨m.D, 0, none⟩), .agg #[.int .i64 a, .int .i64 b, .int .i64 t, .string p, .int .i64 c, vs]] w (BePost w S G ((a, b), t, p, c, s)) := by
  have HB1 : Hid (Below w.heap.size w ((w.alloc (.cells #[.int .i64 a, .int .i64 b, .int .i64 t, .string p, .int .i64 c, vs] 34)).alloc (.cells #[.slice none 0 0, .slice none 0 0, .slice none 0 0] 71))) := ((Below.refl _ w).alloc (Nat.le_refl _) _).alloc (by simp) _
  have H6 : Hid (Six ((w.alloc (.cells #[.int .i64 a, .int .i64 b, .int .i64 t, .string p, .int .i64 c, vs] 34)).alloc (.cells #[.slice none 0 0, .slice none 0 0, .slice none 0 0] 71)) w.heap.size a b t p c vs) := (six_new w a b t p c vs 34).below ((Below.refl _ _).alloc (Nat.le_refl _) _)
  have HT1 : Hid (Ct ((w.alloc (.cells #[.int .i64 a, .int .i64 b, .int .i64 t, .string p, .int .i64 c, vs] 34)).alloc (.cells #[.slice none 0 0, .slice none 0 0, .slice none 0 0] 71)) (w.heap.size + 1)) := ct_new w _
  have CCk : Hid (∀ W, Below w.heap.size w W → Calls Tryz.prog 57 #[.agg #[.int .i64 a, .int .i64 b, .int .i64 t, .string p, .int .i64 c, vs]] W fun e w' => e = .returned (errV (opE ((a, b), t, p, c, s))) ∧ Below W.heap.size W w') := fun W hb => Vc.check_says a b t p c vs s W (hd.below hb) hp
  have HN : Hid (isNew S ((a, b), t, p, c, s) = false) := by
    unfold Hid
    cases h9 : isNew S ((a, b), t, p, c, s)
    · rfl
    · have := (isNew_iff.1 h9).2.2.2; rw [hdo] at this; exact absurd this h0
  have HE : Hid (errV (apE S ((a, b), t, p, c, s)) = .iface 64 (.int .i64 k)) := by unfold Hid apE; rw [if_neg (by simpa using ho), if_neg (show ¬ b ≤ kn S a by omega), if_neg (show ¬ kn S a < b - 1 by omega), if_neg (by omega), hdo, errV_ne h0]
  have HDE : Hid (doE S ((a, b), t, p, c, s) = k) := hdo
  have H0 : Hid (k ≠ 0) := h0
  have CKn : Hid (∀ W, Below w.heap.size w W → Calls Tryz.prog 58 #[.pointer (some ⟨m.D, 0, none⟩), .agg #[.int .i64 a, .int .i64 b]] W fun e w' => e = .returned (.bool false) ∧ Below W.heap.size W w') := fun W hb => by
    have := knows_any m S G a b W (h.mem.below hb)
    rw [hk] at this; exact this
  rw [ho] at CCk
  simp only [errV_zero] at CCk
  obtain ⟨pk, nk, ck, hvk⟩ : ∃ p n c, m.vk = .slice p n c := by obtain ⟨p, c, e, _⟩ := h.mem.known; exact ⟨_, _, _, e⟩
  obtain ⟨po, no, co, hvo⟩ : ∃ p n c, m.vo = .slice p n c := by obtain ⟨L, _, e, _⟩ := h.mem.ops; obtain ⟨p, n, c, e2, _⟩ := own_shape e; exact ⟨p, n, c, e2⟩
  obtain ⟨pb, nb, cb, hvb⟩ : ∃ p n c, m.vb = .slice p n c := by obtain ⟨p, c, e, _⟩ := h.mem.book; exact ⟨_, _, _, e⟩
  obtain ⟨pm, nm, cm, hvm⟩ : ∃ p n c, m.vm = .slice p n c := by obtain ⟨p, c, e, _⟩ := h.mem.marks; exact ⟨_, _, _, e⟩
  have HVO : Hid (m.vo = .slice po no co) := hvo
  have HVK : Hid (m.vk = .slice pk nk ck) := hvk
  have HNO : Hid (no = S.ops.length) := by
    obtain ⟨L, _, e, _⟩ := h.mem.ops
    obtain ⟨p, n, c, e2, e3⟩ := own_shape e
    rw [hvo] at e2
    injection e2 with _ e2 _
    exact e2.trans e3.out
  have HBL : Hid (∀ W, Below w.heap.size w W → W.heap[m.D]? = some (.cells #[.slice pb nb cb, .slice pm nm cm, .slice pk nk ck, .slice po no co, .map (some m.B)] 74)) := fun W hb => by
    have := (h.mem.below hb).blk
    rw [hvk, hvo, hvb, hvm] at this; exact this
  have CAd : Hid (∀ W, Below w.heap.size w W → Calls Tryz.prog 59 #[.slice pk nk ck, .agg #[.int .i64 a, .int .i64 b]] W fun e w' => ∃ g cap, e = .returned (.tuple #[.slice (some ⟨g, 0, none⟩) 8 cap, .nilIface]) ∧ Za.IntsIn w' (some ⟨g, 0, none⟩) (S.known.set (a - 1).toNat b) ∧ W.heap.size ≤ g ∧ Below W.heap.size W w') := fun W hb => by
    obtain ⟨q, cc, e, hi⟩ := h.mem.known
    rw [hvk] at e
    injection e with e1 e2 e3
    subst e1 e2 e3
    exact Dd.add_loc pk _ ck S.known a b W rfl (hi.below hb) ha
  have CDo : Hid (∀ W, Below w.heap.size w W → Calls Tryz.prog 60 #[.pointer (some ⟨m.D, 0, none⟩), .agg #[.int .i64 a, .int .i64 b, .int .i64 t, .string p, .int .i64 c, vs]] W (DoPost W m S G ((a, b), t, p, c, s))) := fun W hb => do_any m S G a b t p c vs s W ⟨h.mem.below hb, h.inv, h.jn, h.short⟩ ho (hd.below hb) hun
  have hfz : ¬ (400 : Int) ≤ no := by have := HNO.out; omega
  obtain ⟨D, hD⟩ : ∃ D, D = m.D := ⟨_, rfl⟩
  have HD : Hid (D = m.D) := hD
  rw [← hD]
  rw [← hD] at CKn HBL CDo
  clear h hd hp ho hk hkn ha hD hvk hvo hvb hvm hfew hun hdo h0
  go_enter Tryz.func41, Tryz.ntmps41
  obtain ⟨o0, o1, o2, o3, o4, o5⟩ := H6.out
  go_wp2_with fail
  refine (CCk.out _ HB1.out).mono ?_
  rintro e w2 ⟨rfl, hb2⟩
  have HB2 : Hid (Below w.heap.size w w2) := bel HB1.out hb2
  have HT2 : Hid (Ct w2 (w.heap.size + 1)) := keep_heap hb2 HT1.out
  have HS2 : Hid (Six w2 w.heap.size a b t p c vs) := H6.out.below hb2
  clear hb2 o0 o1 o2 o3 o4 o5 CCk H6 HB1
  obtain ⟨o0, o1, o2, o3, o4, o5⟩ := HS2.out
  go_wp2_with fail
  refine (CKn.out w2 HB2.out).mono ?_
  rintro e w3 ⟨rfl, hb3⟩
  have HB3 : Hid (Below w.heap.size w w3) := bel HB2.out hb3
  have HT3 : Hid (Ct w3 (w.heap.size + 1)) := keep_heap hb3 HT2.out
  have HS3 : Hid (Six w3 w.heap.size a b t p c vs) := HS2.out.below hb3
  clear hb3 o0 o1 o2 o3 o4 o5 CKn HS2 HB2
  obtain ⟨o0, o1, o2, o3, o4, o5⟩ := HS3.out
  have d2 := blk_cell (HBL.out w3 HB3.out) (i := 2) (u := .slice pk nk ck) rfl
  go_wp2_with fail
  go_region_held3 (fun W => W.cell? ⟨D, 2, none⟩ = some (.slice pk nk ck) ∧ W.cell? ⟨w.heap.size, 0, none⟩ = some (.int .i64 a) ∧ W.cell? ⟨w.heap.size, 1, none⟩ = some (.int .i64 b)) (first | (go_keep; done) | (refine ⟨keep_cell hb7 ?_, keep_cell hb7 ?_, keep_cell hb7 ?_⟩ <;> (go_split_ands; assumption))) (first
    | (go_at_call 59; refine (CAd.out _ HB3.out.drew).mono ?_; rintro e w4 ⟨gk, ck2, rfl, hk4, hgk, hb7⟩; have HB4 : Hid (Below w.heap.size w w4) := bel HB3.out.drew hb7; have HT4 : Hid (Ct w4 (w.heap.size + 1)) := keep_heap (un_drew hb7) HT3.out; have HK4 : Hid (Za.IntsIn w4 (some ⟨gk, 0, none⟩) (S.known.set (a - 1).toNat b)) := hk4; have HGK : Hid (w.heap.size + 1 < gk) := Nat.lt_of_lt_of_le HT3.out.lt hgk; have HS4 : Hid (Six w4 w.heap.size a b t p c vs) := HS3.out.below (un_drew hb7); clear hk4 hgk))
  all_goals
    clear hb7 o0 o1 o2 o3 o4 o5 d2 HS3 HB3 CAd
    have d3 := blk_cell (HBL.out w4 HB4.out) (i := 3) (u := .slice po no co) rfl
    obtain ⟨o0, o1, o2, o3, o4, o5⟩ := HS4.out
    go_wp2_with fail
    refine (CDo.out w4 HB4.out).mono ?_
    rintro e w5 ⟨vb5, vm5, he, hb5, _⟩
    rw [HDE.out, errV_ne H0.out] at he
    subst he
    have HB5 : Hid (Below w.heap.size w w5) := bel HB4.out hb5
    have HT5 : Hid (Ct w5 (w.heap.size + 1)) := keep_heap hb5 HT4.out
    clear hb5 CDo
    have c0 := blk_cell HT5.out (i := 0) (u := .slice none 0 0) rfl
    have c1 := blk_cell HT5.out (i := 1) (u := .slice none 0 0) rfl
    have c2 := blk_cell HT5.out (i := 2) (u := .slice none 0 0) rfl
    have f0 := blk_free HT5.out (i := 0)
    have f1 := blk_free HT5.out (i := 1)
    have f2 := blk_free HT5.out (i := 2)
    go_wp2_with fail
    try simp only [Exit.inBlock, Exit.then]
    refine bodyPost_ret (v := .tuple #[.agg #[.slice none 0 0, .slice none 0 0, .slice none 0 0], .bool false, .iface 64 (.int .i64 k)]) ?_ rfl (BePost.no HN.out HE.out (set3_below HB5.out (by omega) _ _ _))
    simp [results, Tryz.results41, go_sem, asAddr, Result.andThen, c0, c1, c2]

set_option maxRecDepth 100000 in
set_option maxHeartbeats 4000000 in
theorem behind_yes (m : Mem) (S : Dq) (G : Nat → Prop) (a b t : Int) (p : ByteArray) (c : Int) (vs : Value) (s : List Dt) (w : World) (h : DocOk w m S G) (hd : DtsAt w vs s) (hp : p.size ≤ maxLen) (ho : opE ((a, b), t, p, c, s) = 0) (hk : Dm.hasB S.known a b = false) (ha : Dm.addE S.known a b = 0) (hkn : kn S a + 1 = b) (hun : kn S a < b) (hfew : S.ops.length < 400) (hdo : doE S ((a, b), t, p, c, s) = 0) :
    Calls Tryz.prog 41 #[.pointer (some ⟨m.D, 0, none⟩), .agg #[.int .i64 a, .int .i64 b, .int .i64 t, .string p, .int .i64 c, vs]] w (BePost w S G ((a, b), t, p, c, s)) := by
  have HB1 : Hid (Below w.heap.size w ((w.alloc (.cells #[.int .i64 a, .int .i64 b, .int .i64 t, .string p, .int .i64 c, vs] 34)).alloc (.cells #[.slice none 0 0, .slice none 0 0, .slice none 0 0] 71))) := ((Below.refl _ w).alloc (Nat.le_refl _) _).alloc (by simp) _
  have H6 : Hid (Six ((w.alloc (.cells #[.int .i64 a, .int .i64 b, .int .i64 t, .string p, .int .i64 c, vs] 34)).alloc (.cells #[.slice none 0 0, .slice none 0 0, .slice none 0 0] 71)) w.heap.size a b t p c vs) := (six_new w a b t p c vs 34).below ((Below.refl _ _).alloc (Nat.le_refl _) _)
  have HT1 : Hid (Ct ((w.alloc (.cells #[.int .i64 a, .int .i64 b, .int .i64 t, .string p, .int .i64 c, vs] 34)).alloc (.cells #[.slice none 0 0, .slice none 0 0, .slice none 0 0] 71)) (w.heap.size + 1)) := ct_new w _
  have CCk : Hid (∀ W, Below w.heap.size w W → Calls Tryz.prog 57 #[.agg #[.int .i64 a, .int .i64 b, .int .i64 t, .string p, .int .i64 c, vs]] W fun e w' => e = .returned (errV (opE ((a, b), t, p, c, s))) ∧ Below W.heap.size W w') := fun W hb => Vc.check_says a b t p c vs s W (hd.below hb) hp
  have HNEW : Hid (isNew S ((a, b), t, p, c, s) = true) := isNew_iff.2 ⟨ho, hkn, hfew, hdo⟩
  have HDE : Hid (doE S ((a, b), t, p, c, s) = 0) := hdo
  have HLT : Hid (∀ g, G g → g < w.heap.size) := h.mem.lt
  have HL8 : Hid ((S.known.set (a - 1).toNat b).length = 8) := by unfold Hid; rw [List.length_set]; exact h.inv.klen
  have CKn : Hid (∀ W, Below w.heap.size w W → Calls Tryz.prog 58 #[.pointer (some ⟨m.D, 0, none⟩), .agg #[.int .i64 a, .int .i64 b]] W fun e w' => e = .returned (.bool false) ∧ Below W.heap.size W w') := fun W hb => by
    have := knows_any m S G a b W (h.mem.below hb)
    rw [hk] at this; exact this
  rw [ho] at CCk
  simp only [errV_zero] at CCk
  obtain ⟨pk, nk, ck, hvk⟩ : ∃ p n c, m.vk = .slice p n c := by obtain ⟨p, c, e, _⟩ := h.mem.known; exact ⟨_, _, _, e⟩
  obtain ⟨po, no, co, hvo⟩ : ∃ p n c, m.vo = .slice p n c := by obtain ⟨L, _, e, _⟩ := h.mem.ops; obtain ⟨p, n, c, e2, _⟩ := own_shape e; exact ⟨p, n, c, e2⟩
  obtain ⟨pb, nb, cb, hvb⟩ : ∃ p n c, m.vb = .slice p n c := by obtain ⟨p, c, e, _⟩ := h.mem.book; exact ⟨_, _, _, e⟩
  obtain ⟨pm, nm, cm, hvm⟩ : ∃ p n c, m.vm = .slice p n c := by obtain ⟨p, c, e, _⟩ := h.mem.marks; exact ⟨_, _, _, e⟩
  have HVO : Hid (m.vo = .slice po no co) := hvo
  have HVK : Hid (m.vk = .slice pk nk ck) := hvk
  have HNO : Hid (no = S.ops.length) := by
    obtain ⟨L, _, e, _⟩ := h.mem.ops
    obtain ⟨p, n, c, e2, e3⟩ := own_shape e
    rw [hvo] at e2
    injection e2 with _ e2 _
    exact e2.trans e3.out
  have HBL : Hid (∀ W, Below w.heap.size w W → W.heap[m.D]? = some (.cells #[.slice pb nb cb, .slice pm nm cm, .slice pk nk ck, .slice po no co, .map (some m.B)] 74)) := fun W hb => by
    have := (h.mem.below hb).blk
    rw [hvk, hvo, hvb, hvm] at this; exact this
  have CAd : Hid (∀ W, Below w.heap.size w W → Calls Tryz.prog 59 #[.slice pk nk ck, .agg #[.int .i64 a, .int .i64 b]] W fun e w' => ∃ g cap, e = .returned (.tuple #[.slice (some ⟨g, 0, none⟩) 8 cap, .nilIface]) ∧ Za.IntsIn w' (some ⟨g, 0, none⟩) (S.known.set (a - 1).toNat b) ∧ W.heap.size ≤ g ∧ Below W.heap.size W w') := fun W hb => by
    obtain ⟨q, cc, e, hi⟩ := h.mem.known
    rw [hvk] at e
    injection e with e1 e2 e3
    subst e1 e2 e3
    exact Dd.add_loc pk _ ck S.known a b W rfl (hi.below hb) ha
  have CDo : Hid (∀ W, Below w.heap.size w W → Calls Tryz.prog 60 #[.pointer (some ⟨m.D, 0, none⟩), .agg #[.int .i64 a, .int .i64 b, .int .i64 t, .string p, .int .i64 c, vs]] W (DoPost W m S G ((a, b), t, p, c, s))) := fun W hb => do_any m S G a b t p c vs s W ⟨h.mem.below hb, h.inv, h.jn, h.short⟩ ho (hd.below hb) hun
  have hfz : ¬ (400 : Int) ≤ no := by have := HNO.out; omega
  obtain ⟨D, hD⟩ : ∃ D, D = m.D := ⟨_, rfl⟩
  have HD : Hid (D = m.D) := hD
  rw [← hD]
  rw [← hD] at CKn HBL CDo
  clear h hd hp ho hk hkn ha hD hvk hvo hvb hvm hfew hun hdo
  go_enter Tryz.func41, Tryz.ntmps41
  obtain ⟨o0, o1, o2, o3, o4, o5⟩ := H6.out
  go_wp2_with fail
  refine (CCk.out _ HB1.out).mono ?_
  rintro e w2 ⟨rfl, hb2⟩
  have HB2 : Hid (Below w.heap.size w w2) := bel HB1.out hb2
  have HT2 : Hid (Ct w2 (w.heap.size + 1)) := keep_heap hb2 HT1.out
  have HS2 : Hid (Six w2 w.heap.size a b t p c vs) := H6.out.below hb2
  clear hb2 o0 o1 o2 o3 o4 o5 CCk H6 HB1
  obtain ⟨o0, o1, o2, o3, o4, o5⟩ := HS2.out
  go_wp2_with fail
  refine (CKn.out w2 HB2.out).mono ?_
  rintro e w3 ⟨rfl, hb3⟩
  have HB3 : Hid (Below w.heap.size w w3) := bel HB2.out hb3
  have HT3 : Hid (Ct w3 (w.heap.size + 1)) := keep_heap hb3 HT2.out
  have HS3 : Hid (Six w3 w.heap.size a b t p c vs) := HS2.out.below hb3
  clear hb3 o0 o1 o2 o3 o4 o5 CKn HS2 HB2
  obtain ⟨o0, o1, o2, o3, o4, o5⟩ := HS3.out
  have d2 := blk_cell (HBL.out w3 HB3.out) (i := 2) (u := .slice pk nk ck) rfl
  go_wp2_with fail
  go_region_held3 (fun W => W.cell? ⟨D, 2, none⟩ = some (.slice pk nk ck) ∧ W.cell? ⟨w.heap.size, 0, none⟩ = some (.int .i64 a) ∧ W.cell? ⟨w.heap.size, 1, none⟩ = some (.int .i64 b)) (first | (go_keep; done) | (refine ⟨keep_cell hb7 ?_, keep_cell hb7 ?_, keep_cell hb7 ?_⟩ <;> (go_split_ands; assumption))) (first
    | (go_at_call 59; refine (CAd.out _ HB3.out.drew).mono ?_; rintro e w4 ⟨gk, ck2, rfl, hk4, hgk, hb7⟩; have HB4 : Hid (Below w.heap.size w w4) := bel HB3.out.drew hb7; have HT4 : Hid (Ct w4 (w.heap.size + 1)) := keep_heap (un_drew hb7) HT3.out; have HK4 : Hid (Za.IntsIn w4 (some ⟨gk, 0, none⟩) (S.known.set (a - 1).toNat b)) := hk4; have HGK : Hid (w.heap.size + 1 < gk) := Nat.lt_of_lt_of_le HT3.out.lt hgk; have HS4 : Hid (Six w4 w.heap.size a b t p c vs) := HS3.out.below (un_drew hb7); clear hk4 hgk))
  all_goals
    clear hb7 o0 o1 o2 o3 o4 o5 d2 HS3 HB3 CAd
    have d3 := blk_cell (HBL.out w4 HB4.out) (i := 3) (u := .slice po no co) rfl
    obtain ⟨o0, o1, o2, o3, o4, o5⟩ := HS4.out
    go_wp2_with fail
    refine (CDo.out w4 HB4.out).mono ?_
    rintro e w5 ⟨vb5, vm5, he, hb5, hyes⟩
    rw [HDE.out, errV_zero] at he
    subst he
    obtain ⟨⟨h1, i1⟩, h2, i2⟩ := hyes HDE.out
    obtain ⟨pb5, nb5, cb5, rfl⟩ : ∃ p n c, vb5 = .slice p n c := by obtain ⟨p, c, e, _⟩ := h1; exact ⟨_, _, _, e⟩
    obtain ⟨pm5, nm5, cm5, rfl⟩ : ∃ p n c, vm5 = .slice p n c := by obtain ⟨p, c, e, _⟩ := h2; exact ⟨_, _, _, e⟩
    have HP : Hid (BePost w S G ((a, b), t, p, c, s) (.returned (.tuple #[.agg #[.slice pb5 nb5 cb5, .slice pm5 nm5 cm5, .slice (some ⟨gk, 0, none⟩) 8 ck2], .bool true, .nilIface])) (set3 w5 (w.heap.size + 1) (.slice pb5 nb5 cb5) (.slice pm5 nm5 cm5) (.slice (some ⟨gk, 0, none⟩) 8 ck2))) := BePost.yes HNEW.out HLT.out HB4.out HT4.out hb5 h1 i1 h2 i2 HK4.out HL8.out HGK.out
    have HT5 : Hid (Ct w5 (w.heap.size + 1)) := keep_heap hb5 HT4.out
    clear h1 i1 h2 i2 hyes hb5 CDo
    have c0 := blk_cell HT5.out (i := 0) (u := .slice none 0 0) rfl
    have c1 := blk_cell HT5.out (i := 1) (u := .slice none 0 0) rfl
    have c2 := blk_cell HT5.out (i := 2) (u := .slice none 0 0) rfl
    have f0 := blk_free HT5.out (i := 0)
    have f1 := blk_free HT5.out (i := 1)
    have f2 := blk_free HT5.out (i := 2)
    go_wp2_with fail
    try simp only [Exit.inBlock, Exit.then]
    refine bodyPost_ret (v := .tuple #[.agg #[.slice pb5 nb5 cb5, .slice pm5 nm5 cm5, .slice (some ⟨gk, 0, none⟩) 8 ck2], .bool true, .nilIface]) ?_ rfl HP.out
    simp [results, Tryz.results41, go_sem, asAddr, Result.andThen, c0, c1, c2]

/- a doc's behind, at every op -/
theorem behind_any (m : Mem) (S : Dq) (G : Nat → Prop) (a b t : Int) (p : ByteArray) (c : Int) (vs : Value) (s : List Dt) (w : World) (ok : DocOk w m S G) (hd : DtsAt w vs s) (hp : p.size ≤ maxLen) :
    Calls Tryz.prog 41 #[.pointer (some ⟨m.D, 0, none⟩), .agg #[.int .i64 a, .int .i64 b, .int .i64 t, .string p, .int .i64 c, vs]] w (BePost w S G ((a, b), t, p, c, s)) := by
  by_cases ho : opE ((a, b), t, p, c, s) = 0
  · have hdt : dotE a b = 0 := (opE_zero.1 ho).1
    have hh := has_eq ok.inv hdt
    by_cases hk : b ≤ kn S a
    · exact behind_known m S G a b t p c vs s w ok hd hp ho (by rw [hh, decide_eq_true hk]) hk
    · have hh2 : Dm.hasB S.known a b = false := by rw [hh, decide_eq_false hk]
      have hadd := add_eq ok.inv hdt hk
      by_cases hs : kn S a + 1 < b
      · rw [if_pos hs] at hadd
        exact behind_state m S G a b t p c vs s w ok hd hp ho hh2 hadd (by omega)
      · rw [if_neg hs] at hadd
        by_cases hf : 400 ≤ S.ops.length
        · exact behind_full m S G a b t p c vs s w ok hd hp ho hh2 hadd (by omega) hf
        · by_cases hdo : doE S ((a, b), t, p, c, s) = 0
          · exact behind_yes m S G a b t p c vs s w ok hd hp ho hh2 hadd (by omega) (by omega) (by omega) hdo
          · exact behind_no m S G a b t p c vs s w ok hd hp ho hh2 hadd (by omega) (by omega) (by omega) _ rfl hdo
  · exact behind_wrong m S G a b t p c vs s w ok hd hp _ rfl ho

set_option maxRecDepth 100000 in
set_option maxHeartbeats 4000000 in
theorem apply_no (m : Mem) (S : Dq) (G F : Nat → Prop) (a b t : Int) (p : ByteArray) (c : Int) (vs : Value) (s : List Dt) (w : World) (h : DocOk w m S G) (hF : ∀ g, F g ↔ (G g ∨ Wr m g)) (hd : DtsAt w vs s) (hoff : In (fun g => ¬ F g) vs) (hp : p.size ≤ maxLen) (hn : isNew S ((a, b), t, p, c, s) = false) (k : Int) (hk : apE S ((a, b), t, p, c, s) = k) (h0 : k ≠ 0) :
    Calls Tryz.prog 28 #[.pointer (some ⟨m.D, 0, none⟩), .agg #[.int .i64 a, .int .i64 b, .int .i64 t, .string p, .int .i64 c, vs]] w (ApPost w m.D S F ((a, b), t, p, c, s)) := by
  have HAT : Hid (DocAt w m.D S F) := ⟨m, G, rfl, h, hF⟩
  have HB1 : Hid (Below w.heap.size w (w.alloc (.cells #[.int .i64 a, .int .i64 b, .int .i64 t, .string p, .int .i64 c, vs] 34))) := (Below.refl _ w).alloc (Nat.le_refl _) _
  have H6 : Hid (Six (w.alloc (.cells #[.int .i64 a, .int .i64 b, .int .i64 t, .string p, .int .i64 c, vs] 34)) w.heap.size a b t p c vs) := six_new w a b t p c vs 34
  have CBe := behind_any m S G a b t p c vs s (w.alloc (.cells #[.int .i64 a, .int .i64 b, .int .i64 t, .string p, .int .i64 c, vs] 34)) ⟨h.mem.below HB1.out, h.inv, h.jn, h.short⟩ (hd.below HB1.out) hp
  have HN : Hid (isNew S ((a, b), t, p, c, s) = false) := hn
  have HE : Hid (errV (apE S ((a, b), t, p, c, s)) = .iface 64 (.int .i64 k)) := by unfold Hid; rw [hk, errV_ne h0]
  obtain ⟨D, hD⟩ : ∃ D, D = m.D := ⟨_, rfl⟩
  have HD : Hid (D = m.D) := hD
  rw [← hD] at CBe HAT
  rw [← hD]
  clear h hF hd hoff hp hn hk h0 hD
  go_enter Tryz.func28, Tryz.ntmps28
  obtain ⟨o0, o1, o2, o3, o4, o5⟩ := H6.out
  go_wp2_with fail
  refine CBe.mono ?_
  rintro e w2 ⟨pb, nb, cb, pm, nm, cm, pk, nk, ck, he, hb2, _⟩
  have HB2 : Hid (Below w.heap.size w w2) := bel HB1.out hb2
  clear hb2 CBe o0 o1 o2 o3 o4 o5 H6
  rw [HN.out, HE.out] at he
  subst he
  go_wp2_with fail
  go_ret2
  exact ApPost.no HAT.out HN.out HE.out (HB2.out.alloc HB2.out.size _)

set_option maxRecDepth 100000 in
set_option maxHeartbeats 4000000 in
theorem apply_same (m : Mem) (S : Dq) (G F : Nat → Prop) (a b t : Int) (p : ByteArray) (c : Int) (vs : Value) (s : List Dt) (w : World) (h : DocOk w m S G) (hF : ∀ g, F g ↔ (G g ∨ Wr m g)) (hd : DtsAt w vs s) (hoff : In (fun g => ¬ F g) vs) (hp : p.size ≤ maxLen) (hn : isNew S ((a, b), t, p, c, s) = false) (hk : apE S ((a, b), t, p, c, s) = 0) :
    Calls Tryz.prog 28 #[.pointer (some ⟨m.D, 0, none⟩), .agg #[.int .i64 a, .int .i64 b, .int .i64 t, .string p, .int .i64 c, vs]] w (ApPost w m.D S F ((a, b), t, p, c, s)) := by
  have HAT : Hid (DocAt w m.D S F) := ⟨m, G, rfl, h, hF⟩
  have HB1 : Hid (Below w.heap.size w (w.alloc (.cells #[.int .i64 a, .int .i64 b, .int .i64 t, .string p, .int .i64 c, vs] 34))) := (Below.refl _ w).alloc (Nat.le_refl _) _
  have H6 : Hid (Six (w.alloc (.cells #[.int .i64 a, .int .i64 b, .int .i64 t, .string p, .int .i64 c, vs] 34)) w.heap.size a b t p c vs) := six_new w a b t p c vs 34
  have CBe := behind_any m S G a b t p c vs s (w.alloc (.cells #[.int .i64 a, .int .i64 b, .int .i64 t, .string p, .int .i64 c, vs] 34)) ⟨h.mem.below HB1.out, h.inv, h.jn, h.short⟩ (hd.below HB1.out) hp
  have HN : Hid (isNew S ((a, b), t, p, c, s) = false) := hn
  have HE : Hid (errV (apE S ((a, b), t, p, c, s)) = .nilIface) := by unfold Hid; rw [hk]; rfl
  obtain ⟨D, hD⟩ : ∃ D, D = m.D := ⟨_, rfl⟩
  have HD : Hid (D = m.D) := hD
  rw [← hD] at CBe HAT
  rw [← hD]
  clear h hF hd hoff hp hn hk hD
  go_enter Tryz.func28, Tryz.ntmps28
  obtain ⟨o0, o1, o2, o3, o4, o5⟩ := H6.out
  go_wp2_with fail
  refine CBe.mono ?_
  rintro e w2 ⟨pb, nb, cb, pm, nm, cm, pk, nk, ck, he, hb2, _⟩
  have HB2 : Hid (Below w.heap.size w w2) := bel HB1.out hb2
  clear hb2 CBe o0 o1 o2 o3 o4 o5 H6
  rw [HN.out, HE.out] at he
  subst he
  go_wp2_with fail
  go_ret2
  exact ApPost.no HAT.out HN.out HE.out (HB2.out.alloc HB2.out.size _)

set_option maxRecDepth 100000 in
set_option maxHeartbeats 4000000 in
theorem would_no (m : Mem) (S : Dq) (G F : Nat → Prop) (a b t : Int) (p : ByteArray) (c : Int) (vs : Value) (s : List Dt) (w : World) (h : DocOk w m S G) (hF : ∀ g, F g ↔ (G g ∨ Wr m g)) (hd : DtsAt w vs s) (hp : p.size ≤ maxLen) (hn : isNew S ((a, b), t, p, c, s) = false) (k : Int) (hk : apE S ((a, b), t, p, c, s) = k) (h0 : k ≠ 0) :
    Calls Tryz.prog 26 #[.pointer (some ⟨m.D, 0, none⟩), .agg #[.int .i64 a, .int .i64 b, .int .i64 t, .string p, .int .i64 c, vs]] w (fun e w' => e = .returned (.tuple #[.bool (isNew S ((a, b), t, p, c, s)), errV (apE S ((a, b), t, p, c, s))]) ∧ Below w.heap.size w w') := by
  have HAT : Hid (DocAt w m.D S F) := ⟨m, G, rfl, h, hF⟩
  have HB1 : Hid (Below w.heap.size w (w.alloc (.cells #[.int .i64 a, .int .i64 b, .int .i64 t, .string p, .int .i64 c, vs] 34))) := (Below.refl _ w).alloc (Nat.le_refl _) _
  have H6 : Hid (Six (w.alloc (.cells #[.int .i64 a, .int .i64 b, .int .i64 t, .string p, .int .i64 c, vs] 34)) w.heap.size a b t p c vs) := six_new w a b t p c vs 34
  have CBe := behind_any m S G a b t p c vs s (w.alloc (.cells #[.int .i64 a, .int .i64 b, .int .i64 t, .string p, .int .i64 c, vs] 34)) ⟨h.mem.below HB1.out, h.inv, h.jn, h.short⟩ (hd.below HB1.out) hp
  have HN : Hid (isNew S ((a, b), t, p, c, s) = false) := hn
  have HE : Hid (errV (apE S ((a, b), t, p, c, s)) = .iface 64 (.int .i64 k)) := by unfold Hid; rw [hk, errV_ne h0]
  obtain ⟨D, hD⟩ : ∃ D, D = m.D := ⟨_, rfl⟩
  have HD : Hid (D = m.D) := hD
  rw [← hD] at CBe HAT
  rw [← hD]
  clear h hF hd hp hn hk h0 hD
  go_enter Tryz.func26, Tryz.ntmps26
  obtain ⟨o0, o1, o2, o3, o4, o5⟩ := H6.out
  go_wp2_with fail
  refine CBe.mono ?_
  rintro e w2 ⟨pb, nb, cb, pm, nm, cm, pk, nk, ck, he, hb2, _⟩
  have HB2 : Hid (Below w.heap.size w w2) := bel HB1.out hb2
  clear hb2 CBe o0 o1 o2 o3 o4 o5 H6
  rw [HN.out, HE.out] at he
  subst he
  go_wp2_with fail
  go_ret2
  exact ⟨by rw [HN.out, HE.out]; rfl, HB2.out.alloc HB2.out.size _⟩

set_option maxRecDepth 100000 in
set_option maxHeartbeats 4000000 in
theorem would_same (m : Mem) (S : Dq) (G F : Nat → Prop) (a b t : Int) (p : ByteArray) (c : Int) (vs : Value) (s : List Dt) (w : World) (h : DocOk w m S G) (hF : ∀ g, F g ↔ (G g ∨ Wr m g)) (hd : DtsAt w vs s) (hp : p.size ≤ maxLen) (hn : isNew S ((a, b), t, p, c, s) = false) (hk : apE S ((a, b), t, p, c, s) = 0) :
    Calls Tryz.prog 26 #[.pointer (some ⟨m.D, 0, none⟩), .agg #[.int .i64 a, .int .i64 b, .int .i64 t, .string p, .int .i64 c, vs]] w (fun e w' => e = .returned (.tuple #[.bool (isNew S ((a, b), t, p, c, s)), errV (apE S ((a, b), t, p, c, s))]) ∧ Below w.heap.size w w') := by
  have HAT : Hid (DocAt w m.D S F) := ⟨m, G, rfl, h, hF⟩
  have HB1 : Hid (Below w.heap.size w (w.alloc (.cells #[.int .i64 a, .int .i64 b, .int .i64 t, .string p, .int .i64 c, vs] 34))) := (Below.refl _ w).alloc (Nat.le_refl _) _
  have H6 : Hid (Six (w.alloc (.cells #[.int .i64 a, .int .i64 b, .int .i64 t, .string p, .int .i64 c, vs] 34)) w.heap.size a b t p c vs) := six_new w a b t p c vs 34
  have CBe := behind_any m S G a b t p c vs s (w.alloc (.cells #[.int .i64 a, .int .i64 b, .int .i64 t, .string p, .int .i64 c, vs] 34)) ⟨h.mem.below HB1.out, h.inv, h.jn, h.short⟩ (hd.below HB1.out) hp
  have HN : Hid (isNew S ((a, b), t, p, c, s) = false) := hn
  have HE : Hid (errV (apE S ((a, b), t, p, c, s)) = .nilIface) := by unfold Hid; rw [hk]; rfl
  obtain ⟨D, hD⟩ : ∃ D, D = m.D := ⟨_, rfl⟩
  have HD : Hid (D = m.D) := hD
  rw [← hD] at CBe HAT
  rw [← hD]
  clear h hF hd hp hn hk hD
  go_enter Tryz.func26, Tryz.ntmps26
  obtain ⟨o0, o1, o2, o3, o4, o5⟩ := H6.out
  go_wp2_with fail
  refine CBe.mono ?_
  rintro e w2 ⟨pb, nb, cb, pm, nm, cm, pk, nk, ck, he, hb2, _⟩
  have HB2 : Hid (Below w.heap.size w w2) := bel HB1.out hb2
  clear hb2 CBe o0 o1 o2 o3 o4 o5 H6
  rw [HN.out, HE.out] at he
  subst he
  go_wp2_with fail
  go_ret2
  exact ⟨by rw [HN.out, HE.out]; rfl, HB2.out.alloc HB2.out.size _⟩

set_option maxRecDepth 100000 in
set_option maxHeartbeats 4000000 in
theorem would_yes (m : Mem) (S : Dq) (G F : Nat → Prop) (a b t : Int) (p : ByteArray) (c : Int) (vs : Value) (s : List Dt) (w : World) (h : DocOk w m S G) (hF : ∀ g, F g ↔ (G g ∨ Wr m g)) (hd : DtsAt w vs s) (hp : p.size ≤ maxLen) (hn : isNew S ((a, b), t, p, c, s) = true) (hk : apE S ((a, b), t, p, c, s) = 0) :
    Calls Tryz.prog 26 #[.pointer (some ⟨m.D, 0, none⟩), .agg #[.int .i64 a, .int .i64 b, .int .i64 t, .string p, .int .i64 c, vs]] w (fun e w' => e = .returned (.tuple #[.bool (isNew S ((a, b), t, p, c, s)), errV (apE S ((a, b), t, p, c, s))]) ∧ Below w.heap.size w w') := by
  have HAT : Hid (DocAt w m.D S F) := ⟨m, G, rfl, h, hF⟩
  have HB1 : Hid (Below w.heap.size w (w.alloc (.cells #[.int .i64 a, .int .i64 b, .int .i64 t, .string p, .int .i64 c, vs] 34))) := (Below.refl _ w).alloc (Nat.le_refl _) _
  have H6 : Hid (Six (w.alloc (.cells #[.int .i64 a, .int .i64 b, .int .i64 t, .string p, .int .i64 c, vs] 34)) w.heap.size a b t p c vs) := six_new w a b t p c vs 34
  have CBe := behind_any m S G a b t p c vs s (w.alloc (.cells #[.int .i64 a, .int .i64 b, .int .i64 t, .string p, .int .i64 c, vs] 34)) ⟨h.mem.below HB1.out, h.inv, h.jn, h.short⟩ (hd.below HB1.out) hp
  have HN : Hid (isNew S ((a, b), t, p, c, s) = true) := hn
  have HE : Hid (errV (apE S ((a, b), t, p, c, s)) = .nilIface) := by unfold Hid; rw [hk]; rfl
  obtain ⟨D, hD⟩ : ∃ D, D = m.D := ⟨_, rfl⟩
  have HD : Hid (D = m.D) := hD
  rw [← hD] at CBe HAT
  rw [← hD]
  clear h hF hd hp hn hk hD
  go_enter Tryz.func26, Tryz.ntmps26
  obtain ⟨o0, o1, o2, o3, o4, o5⟩ := H6.out
  go_wp2_with fail
  refine CBe.mono ?_
  rintro e w2 ⟨pb, nb, cb, pm, nm, cm, pk, nk, ck, he, hb2, _⟩
  have HB2 : Hid (Below w.heap.size w w2) := bel HB1.out hb2
  clear hb2 CBe o0 o1 o2 o3 o4 o5 H6
  rw [HN.out, HE.out] at he
  subst he
  go_wp2_with fail
  go_ret2
  exact ⟨by rw [HN.out, HE.out]; rfl, HB2.out.alloc HB2.out.size _⟩

set_option maxRecDepth 100000 in
set_option maxHeartbeats 4000000 in
theorem apply_yes (m : Mem) (S : Dq) (G F : Nat → Prop) (a b t : Int) (p : ByteArray) (c : Int) (vs : Value) (s : List Dt) (w : World) (h : DocOk w m S G) (hF : ∀ g, F g ↔ (G g ∨ Wr m g)) (hd : DtsAt w vs s) (hoff : In (fun g => ¬ F g) vs) (hp : p.size ≤ maxLen) (hn : isNew S ((a, b), t, p, c, s) = true) :
    Calls Tryz.prog 28 #[.pointer (some ⟨m.D, 0, none⟩), .agg #[.int .i64 a, .int .i64 b, .int .i64 t, .string p, .int .i64 c, vs]] w (ApPost w m.D S F ((a, b), t, p, c, s)) := by
  have HAT : Hid (DocAt w m.D S F) := ⟨m, G, rfl, h, hF⟩
  have HB1 : Hid (Below w.heap.size w (w.alloc (.cells #[.int .i64 a, .int .i64 b, .int .i64 t, .string p, .int .i64 c, vs] 34))) := (Below.refl _ w).alloc (Nat.le_refl _) _
  have H6 : Hid (Six (w.alloc (.cells #[.int .i64 a, .int .i64 b, .int .i64 t, .string p, .int .i64 c, vs] 34)) w.heap.size a b t p c vs) := six_new w a b t p c vs 34
  have CBe := behind_any m S G a b t p c vs s (w.alloc (.cells #[.int .i64 a, .int .i64 b, .int .i64 t, .string p, .int .i64 c, vs] 34)) ⟨h.mem.below HB1.out, h.inv, h.jn, h.short⟩ (hd.below HB1.out) hp
  have HNEW : Hid (isNew S ((a, b), t, p, c, s) = true) := hn
  obtain ⟨ho, hkn, hfew, hdo⟩ := isNew_iff.1 hn
  simp only at hkn
  have hap : apE S ((a, b), t, p, c, s) = 0 := by
    unfold apE
    rw [if_neg (by simpa using ho), if_neg (show ¬ b ≤ kn S a by omega), if_neg (show ¬ kn S a < b - 1 by omega), if_neg (by omega)]
    exact hdo
  have HE : Hid (errV (apE S ((a, b), t, p, c, s)) = .nilIface) := by unfold Hid; rw [hap]; rfl
  have HOK : Hid (DocOk w m S G) := h
  have HF : Hid (∀ g, F g ↔ (G g ∨ Wr m g)) := hF
  have hs40 : s.length ≤ 40 := (lawOf_zero.1 (opE_zero.1 ho).2.2.2).2.2.2.1
  have HFEW : Hid (S.ops.length < 400) := hfew
  have HIN : Hid (∀ x n cc, vs = .slice (some x) n cc → 0 < n → x.block < w.heap.size ∧ ¬ F x.block) := fun x n cc e hn => ⟨by
      obtain ⟨q, c2, hv, hin, _⟩ := hd
      rw [e] at hv
      injection hv with e1 e2 e3
      rcases hin with e0 | ⟨bb, oo, hp9, hcs⟩
      · rw [e0] at e2; simp at e2; omega
      · rw [hp9] at e1; injection e1 with e1; rw [e1]; exact (hcs 0 (by omega)).lt, hoff x n cc e hn⟩
  have HDS : Hid (∀ W, Chg F w W → DtsAt W vs s) := fun W hc => dots_stay hd (G := fun g => g < w.heap.size ∧ ¬ F g) (fun x n cc e hn => HIN.out x n cc e hn) (hc.stay fun g hg => hg)
  have HCP : Hid (∀ W, DtsAt W vs s → Calls Tryz.prog 43 #[.agg #[.int .i64 a, .int .i64 b, .int .i64 t, .string p, .int .i64 c, vs]] W fun e w' => ∃ v, e = .returned v ∧ ∃ v', v = .agg #[.int .i64 a, .int .i64 b, .int .i64 t, .string p, .int .i64 c, v'] ∧ w'.ownsRow W.heap.size 31 2 v' s.length (flatD s) ∧ Below W.heap.size W w') := fun W hW => (copy_any a b t p c vs s W hW (by omega)).mono fun e w' ⟨v', h1, h2, h3⟩ => ⟨_, h1, v', rfl, h2, h3⟩
  have HSE : Hid (∀ W m9, m9.D = m.D → m9.M = m.M → Mid w F m9 (next S ((a, b), t, p, c, s)) W → Calls Tryz.prog 44 #[.pointer (some ⟨m.D, 0, none⟩), .agg #[.int .i64 a, .int .i64 b, .int .i64 t, .string p, .int .i64 c, vs]] W fun e w' => e = .returned (.tuple #[]) ∧ ApPost w m.D S F ((a, b), t, p, c, s) (.returned (.tuple #[.bool true, .nilIface])) w') := by
    intro W m9 hmD hmM hmid
    have hdW := HDS.out W hmid.chg
    obtain ⟨G', h1, h2, h3, h4⟩ := hmid
    have hsh : ∀ x ∈ m9.M, x.2.2.length ≤ 40 * S.ops.length := by rw [hmM]; exact h.short
    have hofw : In (fun g => ¬ Wr m9 g) vs := fun x n cc e hn e9 => by
      have q := HIN.out x n cc e hn
      rcases h4 _ e9 with e8 | e8
      · exact q.2 e8
      · omega
    rw [← hmD]
    refine (settle_any m9 (next S ((a, b), t, p, c, s)) G' (40 * S.ops.length) a b t p c vs s W h1 (by omega) hsh hdW hofw hs40).mono ?_
    rintro e w' ⟨rfl, M', hst⟩
    exact ⟨rfl, mid_end h hmM HNEW.out G' h2 h3 h4 hst⟩
  obtain ⟨po, no, co, hvo⟩ : ∃ p n c, m.vo = .slice p n c := by obtain ⟨L, _, e, _⟩ := h.mem.ops; obtain ⟨p, n, c, e2, _⟩ := own_shape e; exact ⟨p, n, c, e2⟩
  obtain ⟨pb0, nb0, cb0, hvb⟩ : ∃ p n c, m.vb = .slice p n c := by obtain ⟨p, c, e, _⟩ := h.mem.book; exact ⟨_, _, _, e⟩
  obtain ⟨pm0, nm0, cm0, hvm⟩ : ∃ p n c, m.vm = .slice p n c := by obtain ⟨p, c, e, _⟩ := h.mem.marks; exact ⟨_, _, _, e⟩
  obtain ⟨pk0, nk0, ck0, hvk⟩ : ∃ p n c, m.vk = .slice p n c := by obtain ⟨p, c, e, _⟩ := h.mem.known; exact ⟨_, _, _, e⟩
  have HVO : Hid (m.vo = .slice po no co) := hvo
  have HNO : Hid (no = S.ops.length) := by
    obtain ⟨L, _, e, _⟩ := h.mem.ops
    obtain ⟨p, n, c, e2, e3⟩ := own_shape e
    rw [hvo] at e2
    injection e2 with _ e2 _
    exact e2.trans e3.out
  have HBL : Hid (∀ W, Below w.heap.size w W → W.heap[m.D]? = some (.cells #[.slice pb0 nb0 cb0, .slice pm0 nm0 cm0, .slice pk0 nk0 ck0, .slice po no co, .map (some m.B)] 74)) := fun W hb => by
    have := (h.mem.below hb).blk
    rw [hvk, hvo, hvb, hvm] at this; exact this
  have HDL : Hid (m.D < w.heap.size) := h.mem.wr_lt _ (Or.inl rfl)
  obtain ⟨D, hD⟩ : ∃ D, D = m.D := ⟨_, rfl⟩
  have HD : Hid (D = m.D) := hD
  rw [← hD] at CBe HAT HSE HBL HDL
  rw [← hD]
  clear h hF hd hoff hp hn ho hkn hfew hdo hap hs40 hD hvo hvb hvm hvk
  go_enter Tryz.func28, Tryz.ntmps28
  obtain ⟨o0, o1, o2, o3, o4, o5⟩ := H6.out
  go_wp2_with fail
  refine CBe.mono ?_
  rintro e w2 ⟨pb, nb, cb, pm, nm, cm, pk, nk, ck, he, hb2, hy⟩
  rw [HNEW.out, HE.out] at he
  subst he
  have HB2 : Hid (Below w.heap.size w w2) := bel HB1.out hb2
  have HS2 : Hid (Six w2 w.heap.size a b t p c vs) := H6.out.below hb2
  have HBA : Hid (Below w2.heap.size w2 (w2.alloc (.cells #[.slice pb nb cb, .slice pm nm cm, .slice pk nk ck] 71))) := (Below.refl _ _).alloc (Nat.le_refl _) _
  have HB3 : Hid (Below w.heap.size w (w2.alloc (.cells #[.slice pb nb cb, .slice pm nm cm, .slice pk nk ck] 71))) := bel HB2.out HBA.out
  have HY : Hid (Mid w F { m with vb := .slice pb nb cb, vm := .slice pm nm cm, vk := .slice pk nk ck } ⟨doB S ((a, b), t, p, c, s), doM S ((a, b), t, p, c, s), S.known.set (a - 1).toNat b, S.ops⟩ (set3 (w2.alloc (.cells #[.slice pb nb cb, .slice pm nm cm, .slice pk nk ck] 71)) D (.slice pb nb cb) (.slice pm nm cm) (.slice pk nk ck))) := by
    obtain ⟨⟨y1, i1⟩, ⟨y2, i2⟩, y3, i3⟩ := hy HNEW.out
    have hz1 := HB1.out.size
    have hz2 := HBA.out.size
    have hmono : ∀ g, News G (w.alloc (.cells #[.int .i64 a, .int .i64 b, .int .i64 t, .string p, .int .i64 c, vs] 34)) w2 g → News G w (w2.alloc (.cells #[.slice pb nb cb, .slice pm nm cm, .slice pk nk ck] 71)) g := fun g hg => by
      rcases hg with e | e
      · exact Or.inl e
      · exact Or.inr ⟨by omega, by omega⟩
    rw [Hid, HD.out]
    exact mid_content HOK.out HF.out HB3.out (y1.below HBA.out) (i1.mono hmono) (y2.below HBA.out) (i2.mono hmono) (y3.below HBA.out) (i3.mono hmono)
  have HS6 : Hid (Six (set3 (w2.alloc (.cells #[.slice pb nb cb, .slice pm nm cm, .slice pk nk ck] 71)) D (.slice pb nb cb) (.slice pm nm cm) (.slice pk nk ck)) w.heap.size a b t p c vs) := six_same (HS2.out.below HBA.out) (set3_block _ _ _ _ _ _ (by have := HDL.out; omega))
  have d0 := blk_cell (HBL.out _ HB3.out) (i := 0) (u := .slice pb0 nb0 cb0) rfl
  have d1 := blk_cell (HBL.out _ HB3.out) (i := 1) (u := .slice pm0 nm0 cm0) rfl
  have d2 := blk_cell (HBL.out _ HB3.out) (i := 2) (u := .slice pk0 nk0 ck0) rfl
  have f0 := blk_free (HBL.out _ HB3.out) (i := 0)
  have f1 := blk_free (HBL.out _ HB3.out) (i := 1)
  have f2 := blk_free (HBL.out _ HB3.out) (i := 2)
  clear hb2 hy CBe o0 o1 o2 o3 o4 o5 H6
  go_wp2_with fail
  unfold set3 at HY HS6
  generalize hw6 : (((w2.alloc (.cells #[.slice pb nb cb, .slice pm nm cm, .slice pk nk ck] 71)).setCell ⟨D, 0, none⟩ (.slice pb nb cb)).setCell ⟨D, 1, none⟩ (.slice pm nm cm)).setCell ⟨D, 2, none⟩ (.slice pk nk ck) = w6 at HY HS6 ⊢
  clear hw6 d0 d1 d2 f0 f1 f2 HB3 HBA HS2
  obtain ⟨G6, hm6, hc6, hg6, hwr6⟩ := HY.out
  obtain ⟨L, hL, hLo, hLd⟩ := hm6.ops
  have HM6 : Hid (DocMem w6 { m with vb := .slice pb nb cb, vm := .slice pm nm cm, vk := .slice pk nk ck } ⟨doB S ((a, b), t, p, c, s), doM S ((a, b), t, p, c, s), S.known.set (a - 1).toNat b, S.ops⟩ G6) := hm6
  have HC6 : Hid (Chg F w w6) := hc6
  have HG6 : Hid ((∀ g, G6 g → F g ∨ w.heap.size ≤ g) ∧ ∀ g, Wr { m with vb := .slice pb nb cb, vm := .slice pm nm cm, vk := .slice pk nk ck } g → F g ∨ w.heap.size ≤ g) := ⟨hg6, hwr6⟩
  have HL1 : Hid (L.map (·.1) = S.ops) := hL
  have HL2 : Hid (∀ y ∈ L, DtsAt w6 y.2 y.1.2.2.2.2 ∧ In G6 y.2) := hLd
  have HLO : Hid (w6.ownsRow 0 34 6 (.slice po no co) no (flatO L)) := by unfold Hid; rw [← HVO.out, HNO.out]; exact hLo
  have HBK6 : Hid (∀ W, Below w6.heap.size w6 W → W.heap[D]? = some (.cells #[.slice pb nb cb, .slice pm nm cm, .slice pk nk ck, .slice po no co, .map (some m.B)] 74)) := fun W hb => by
    have := (HM6.out.below hb).blk
    simp only [HVO.out] at this
    rw [HD.out]; exact this
  have HD6 : Hid (DtsAt w6.drew vs s) := HDS.out w6.drew ⟨hc6.os, hc6.tape, hc6.output, hc6.size, hc6.block⟩
  have HVB : Hid (∀ g, (Value.slice po no co).ownBlock = some g → g < w.heap.size) := fun g hg => HOK.out.mem.wr_lt g (Or.inr (Or.inr (Or.inl (by rw [HVO.out]; exact hg))))
  have HDNE : Hid (∀ g, (Value.slice po no co).ownBlock = some g → g = D → False) := fun g hg e => by
    obtain ⟨_, cur, hc⟩ := own_lt HLO.out g hg
    rw [e, HBK6.out w6 (Below.refl _ _)] at hc
    injection hc with hc
    injection hc with _ hc _
    exact absurd hc (by decide)
  have q6 := blk_cell (HBK6.out w6 (Below.refl _ _)) (i := 3) (u := .slice po no co) rfl
  obtain ⟨o0, o1, o2, o3, o4, o5⟩ := HS6.out
  clear hL hLo hLd hm6 hc6 hg6 hwr6 HY
  go_region_law (first
    | (refine step_call1 (R := fun v w' => ∃ v', v = .agg #[.int .i64 a, .int .i64 b, .int .i64 t, .string p, .int .i64 c, v'] ∧ w'.ownsRow w6.drew.heap.size 31 2 v' s.length (flatD s) ∧ Below w6.drew.heap.size w6.drew w') (by rfl) 43 (.tmp 32) _ (by rfl) _ (by rfl) enter_copy (HCP.out _ HD6.out) ?_; rintro v7 w7 ⟨vs7, rfl, hn7, hb7⟩; obtain ⟨p7, n7, c7, rfl, _⟩ := own_shape hn7; have HB7 : Hid (Below w6.heap.size w6 w7) := un_drew hb7; have HN7 : Hid (w7.ownsRow w6.heap.size 31 2 (.slice p7 n7 c7) s.length (flatD s)) := hn7; have HBA : Hid (∀ O, Below w6.heap.size w6 (w7.alloc O)) := (fun O => HB7.out.alloc HB7.out.size O); have HOA : Hid (∀ O, (w7.alloc O).ownsRow 0 34 6 (.slice po no co) no (flatO L)) := (fun O => own_below HLO.out (HBA.out O)); have q7 := blk_cell (HBK6.out w7 HB7.out) (i := 3) (u := .slice po no co) rfl; have q8 := fun O => blk_cell (HBK6.out _ (HBA.out O)) (i := 3) (u := .slice po no co) rfl; clear hn7 hb7)
    | (refine step_putO (by rfl) (.tmp 31) (.tmp 34) (by rfl) (.slice po no co) no L ((a, b), t, p, c, s) p7 n7 c7 (by rfl) w7.heap.size (by rfl) (by have := HNO.out; have := HFEW.out; omega) (HOA.out _) (heap_alloc_new w7 _) ?_; intro v9 w9 hr9 hg9 hl9; obtain ⟨p9, n9, c9, rfl, _⟩ := own_shape hr9; have hbk9 := (set_ops_blk (HBK6.out _ (HBA.out _)) hg9 (fun e => HDNE.out D e rfl)); have q9 := blk_cell hbk9 (i := 3) (u := .slice po no co) rfl; have fq9 := blk_free hbk9 (i := 3); have HS9 : Hid (Six w9 w.heap.size a b t p c vs) := six_same (HS6.out.below (HBA.out _)) (hg9.block _ (six_lt (HS6.out.below (HBA.out _))) (fun e => by have := HVB.out _ e.symm; omega)); have HM9 : Hid (Mid w F { m with vb := .slice pb nb cb, vm := .slice pm nm cm, vk := .slice pk nk ck, vo := .slice p9 n9 c9 } (next S ((a, b), t, p, c, s)) (w9.setCell ⟨m.D, 3, none⟩ (.slice p9 n9 c9))) := mid_ops (o := ((a, b), t, p, c, s)) HM6.out HC6.out HG6.out.1 HG6.out.2 HL1.out HL2.out (HBA.out _) (own_below HN7.out ((Below.refl _ w7).alloc (Nat.le_refl _) _)) (by show World.grownBy _ _ m.vo.ownBlock; rw [HVO.out]; exact hg9) (by have := hr9; rw [HNO.out] at this; exact this) (by show _ = m.vo.ownBlock ∨ _; rw [HVO.out]; exact hl9); clear hr9 hg9 hl9 hbk9))
  all_goals
    have HS11 : Hid (Six (w9.setCell ⟨D, 3, none⟩ (.slice p9 n9 c9)) w.heap.size a b t p c vs) := six_same HS9.out (set_block _ _ _ _ (by have := HDL.out; simp; omega))
    have HM11 : Hid (Mid w F { m with vb := .slice pb nb cb, vm := .slice pm nm cm, vk := .slice pk nk ck, vo := .slice p9 n9 c9 } (next S ((a, b), t, p, c, s)) (w9.setCell ⟨D, 3, none⟩ (.slice p9 n9 c9))) := by unfold Hid; rw [HD.out]; exact HM9.out
    clear q6 q7 q8 HM9 HS9 HS6 o0 o1 o2 o3 o4 o5
    generalize hw11 : w9.setCell ⟨D, 3, none⟩ (.slice p9 n9 c9) = w11 at HM11 HS11 ⊢
    clear hw11 q9 fq9
    obtain ⟨o0, o1, o2, o3, o4, o5⟩ := HS11.out
    go_wp2_with fail
    refine (HSE.out w11 { m with vb := .slice pb nb cb, vm := .slice pm nm cm, vk := .slice pk nk ck, vo := .slice p9 n9 c9 } HD.out.symm rfl HM11.out).mono ?_
    rintro e w12 ⟨rfl, hpost⟩
    have HP : Hid (ApPost w D S F ((a, b), t, p, c, s) (.returned (.tuple #[.bool true, .nilIface])) w12) := hpost
    clear hpost
    go_wp2_with fail
    go_ret2
    exact HP.out

/- a doc's Apply, at every op -/
theorem apply_any (D : Nat) (S : Dq) (F : Nat → Prop) (a b t : Int) (p : ByteArray) (c : Int) (vs : Value) (s : List Dt) (w : World) (h : DocAt w D S F) (hd : DtsAt w vs s) (hoff : In (fun g => ¬ F g) vs) (hp : p.size ≤ maxLen) :
    Calls Tryz.prog 28 #[.pointer (some ⟨D, 0, none⟩), .agg #[.int .i64 a, .int .i64 b, .int .i64 t, .string p, .int .i64 c, vs]] w (ApPost w D S F ((a, b), t, p, c, s)) := by
  obtain ⟨m, G, rfl, ok, hF⟩ := h
  cases hn : isNew S ((a, b), t, p, c, s)
  · by_cases hk : apE S ((a, b), t, p, c, s) = 0
    · exact apply_same m S G F a b t p c vs s w ok hF hd hoff hp hn hk
    · exact apply_no m S G F a b t p c vs s w ok hF hd hoff hp hn _ rfl hk
  · exact apply_yes m S G F a b t p c vs s w ok hF hd hoff hp hn
/- a doc's Would, at every op -/
theorem would_any (D : Nat) (S : Dq) (F : Nat → Prop) (a b t : Int) (p : ByteArray) (c : Int) (vs : Value) (s : List Dt) (w : World) (h : DocAt w D S F) (hd : DtsAt w vs s) (hp : p.size ≤ maxLen) :
    Calls Tryz.prog 26 #[.pointer (some ⟨D, 0, none⟩), .agg #[.int .i64 a, .int .i64 b, .int .i64 t, .string p, .int .i64 c, vs]] w fun e w' => e = .returned (.tuple #[.bool (isNew S ((a, b), t, p, c, s)), errV (apE S ((a, b), t, p, c, s))]) ∧ Below w.heap.size w w' := by
  obtain ⟨m, G, rfl, ok, hF⟩ := h
  cases hn : isNew S ((a, b), t, p, c, s)
  · rw [← hn]
    by_cases hk : apE S ((a, b), t, p, c, s) = 0
    · exact would_same m S G F a b t p c vs s w ok hF hd hp hn hk
    · exact would_no m S G F a b t p c vs s w ok hF hd hp hn _ rfl hk
  · rw [← hn]
    obtain ⟨e0, hkn, hfew, hdo⟩ := isNew_iff.1 hn
    have hap : apE S ((a, b), t, p, c, s) = 0 := by
      unfold apE
      rw [if_neg (by simpa using e0), if_neg (by omega), if_neg (by omega), if_neg (by omega)]
      exact hdo
    exact would_yes m S G F a b t p c vs s w ok hF hd hp hn hap

end Ik
end Go.Proofs.YtgefpcchcegcpaaGreatDoor
