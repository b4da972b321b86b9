/- What the reference's Put does. -/
import Derived.Test.YtnniggjeadlbgaaGreatDoorJm
import Derived.Test.YtnniggjeadlbgaaGreatDoorJe
import Derived.Test.YtnniggjeadlbgaaGreatDoorXf
import Derived.Test.YtnniggjeadlbgaaGreatDoorK3
namespace Go.Proofs.YtnniggjeadlbgaaGreatDoor
namespace Jo
set_option linter.unusedVariables false
set_option linter.unusedSimpArgs false
open Go.ChangeShapes Go.WideShapes Go.ChangeAt Go.RowKit Cm Ka Kb Na Om Oa Oz Oc Og Oi Hm Ia Ic Idc Ie If Ig Ii Ij Ik Il Im Iq Xa Ja Jm
open La (bel bel_drew errV_zero errV_ne own_ge own_grow own_below Lies)
open Je (cell_lift below_d below_a below_ad)

theorem own_up {w : World} {B base : Nat} {t : TypeId} {z : Nat} {v : Value} {n : Nat} {xs : List Value} (h : w.ownsRow base t z v n xs) (hb : ∀ g, v.ownBlock = some g → B ≤ g) : w.ownsRow B t z v n xs := by
  refine ⟨h.1, ?_⟩
  rcases h.2 with h0 | ⟨g, cap, cur, h1, h2, h3⟩
  · exact Or.inl h0
  · exact Or.inr ⟨g, cap, cur, h1, hb g (by rw [h1]; rfl), h3⟩
/- another row is stored -/
theorem rb_set {B : Nat} {w w10 : World} {Q E : Nat} {vL v10 : Value} {S : Dq} {M M2 : List (Ox × Value)} {F : Nat → Prop} (h : RB B w Q E vL S M F) (hc : Chg (fun g => vL.ownBlock = some g) w w10) (hr : w10.ownsRow 0 33 6 v10 M2.length (flatO M2)) (hv : ∀ g, v10.ownBlock = some g → vL.ownBlock = some g ∨ w.heap.size ≤ g)
    (hd : ∀ y ∈ M2, DtsAt w y.2 y.1.2.2.2.2 ∧ In (fun g => g < B) y.2) (hz : ∀ y ∈ M2, y.1.2.2.1.size ≤ maxLen) (hw : Wt (M2.map (·.1))) :
    RB B (w10.setCell ⟨Q, 1, none⟩ v10) Q E v10 S M2 F ∧ Chg (fun g => g = Q ∨ vL.ownBlock = some g) w (w10.setCell ⟨Q, 1, none⟩ v10) := by
  have hbase := h.base
  have hQ := (Array.getElem?_eq_some_iff.1 h.blk).1
  have hQ10 : w10.heap[Q]? = some (.cells #[.pointer (some ⟨E, 0, none⟩), vL] 82) := by
    rw [hc.block Q hQ (fun e => h.ne Q e rfl)]; exact h.blk
  have c2 : Chg (fun g => g = Q ∨ vL.ownBlock = some g) w (w10.setCell ⟨Q, 1, none⟩ v10) := (hc.mono (H := fun g => g = Q ∨ vL.ownBlock = some g) (fun g e => Or.inr e)).setCell (p := ⟨Q, 1, none⟩) (Or.inl rfl) _
  have hlow : ∀ g, (g = Q ∨ vL.ownBlock = some g) → B ≤ g := fun g e => by
    rcases e with e | e
    · rw [e]; exact h.offQ.2
    · exact (h.row.lt g e).1
  have hBv : ∀ g, v10.ownBlock = some g → B ≤ g := fun g e => by
    rcases hv g e with e | e
    · exact (h.row.lt g e).1
    · omega
  refine ⟨⟨?_, h.doc.chg c2 hlow (fun g hf e => ?_), ?_, fun y hy => ⟨dots_stay (hd y hy).1 (hd y hy).2 (fun g e => c2.block g (Nat.lt_of_lt_of_le e hbase) (fun e9 => by have := hlow g e9; have h9 : g < B := e; omega)), (hd y hy).2⟩, hz, hw, h.offQ, fun g e hf => ?_⟩, c2⟩
  · rw [set_heap hQ10]; rfl
  · rcases e with e | e
    · exact h.offQ.1 (e ▸ hf)
    · exact h.offL g e hf
  · refine own_stay (own_up hr hBv) fun g e => set_block _ _ _ _ ?_
    obtain ⟨_, cur, h9⟩ := own_lt hr g e
    exact blk_ne h9 hQ10 (by decide)
  · rcases hv g e with e | e
    · exact h.offL g e hf
    · have := (h.doc.lt g hf).2; omega
theorem rb_did {B : Nat} {w w' : World} {Q E : Nat} {vL : Value} {S S' : Dq} {M : List (Ox × Value)} {F F' : Nat → Prop} (h : RB B w Q E vL S M F) (hd : RefAt B w' E S' F') (hc : Chg F w w') (hf : ∀ g, F' g → F g ∨ w.heap.size ≤ g) : RB B w' Q E vL S' M F' := by
  have hbase := h.base
  have hQ := (Array.getElem?_eq_some_iff.1 h.blk).1
  refine ⟨by rw [hc.block Q hQ h.offQ.1]; exact h.blk, hd, own_stay h.row (fun g e => hc.block g (own_lt h.row g e).1 (h.offL g e)), fun y hy => ⟨dots_stay (h.dts y hy).1 (h.dts y hy).2 (fun g e => hc.block g (Nat.lt_of_lt_of_le e hbase) (fun e9 => by have := (h.doc.lt g e9).1; have h9 : g < B := e; omega)), (h.dts y hy).2⟩, h.size, h.wt, ⟨fun e => ?_, h.offQ.2⟩, fun g e e9 => ?_⟩
  · rcases hf Q e with e | e
    · exact h.offQ.1 e
    · omega
  · rcases hf g e9 with e9 | e9
    · exact h.offL g e e9
    · have := (own_lt h.row g e).1; omega

def RPut (B : Nat) (w : World) (Q E : Nat) (H : Nat → Prop) (r : (Int × Int) × Dq × List Ox) (e : Ending) (w' : World) : Prop :=
  e = .returned (.tuple #[.int .i64 r.1.1, .int .i64 r.1.2]) ∧ ∃ H', RBAt B w' Q E r.2.1 r.2.2 H' ∧ Chg H w w' ∧ ∀ g, H' g → H g ∨ w.heap.size ≤ g
theorem RPut.no {B : Nat} {w w' : World} {Q E : Nat} {S : Dq} {L : List Ox} {H : Nat → Prop} {r : (Int × Int) × Dq × List Ox} (h : RBAt B w Q E S L H) (k : Int) (hr : r = ((0, k), S, L)) (hb : Below w.heap.size w w') : RPut B w Q E H r (.returned (.tuple #[.int .i64 0, .int .i64 k])) w' := by
  subst hr
  exact ⟨rfl, H, h.below hb, Chg.ofBelow hb H, fun g hg => Or.inl hg⟩
theorem enter_rapply (args : Array Value) (W : World) : (callFunc 11 args).run Tryz.prog W = .ok (.enter 11 args) W := by
  first | kernel_rfl | simp [callFunc, go_sem, Tryz.func11]
set_option maxRecDepth 100000 in
set_option maxHeartbeats 4000000 in
theorem rp_wrong (B Q E : Nat) (S : Dq) (L : List Ox) (H : Nat → Prop) (a b t : Int) (p : ByteArray) (c : Int) (ps : Option Addr) (ns cs : Nat) (s : List Dt) (w : World) (h : RBAt B w Q E S L H) (hd : DtsAt w (.slice ps ns cs) s) (hi : In (fun g => g < B) (.slice ps ns cs)) (hp : p.size ≤ maxLen) (k : Int) (ho : opE ((a, b), t, p, c, s) = k) (h0 : k ≠ 0) :
    Calls Tryz.prog 41 #[.pointer (some ⟨Q, 0, none⟩), .agg #[.int .i64 a, .int .i64 b, .int .i64 t, .string p, .int .i64 c, .slice ps ns cs]] w (RPut B w Q E H (putR S L ((a, b), t, p, c, s))) := by
  have HAT : Hid (RBAt B w Q E S L H) := h
  have HB1 : Hid (Below w.heap.size w (w.alloc (.cells #[.int .i64 a, .int .i64 b, .int .i64 t, .string p, .int .i64 c, .slice ps ns cs] 33))) := (Below.refl _ w).alloc (Nat.le_refl _) _
  have HBX : Hid ((w.alloc (.cells #[.int .i64 a, .int .i64 b, .int .i64 t, .string p, .int .i64 c, .slice ps ns cs] 33)).heap[w.heap.size]? = some (.cells #[.int .i64 a, .int .i64 b, .int .i64 t, .string p, .int .i64 c, .slice ps ns cs] 33)) := heap_alloc_new w _
  have o0 := blk_cell HBX.out (i := 0) (u := .int .i64 a) rfl
  have o1 := blk_cell HBX.out (i := 1) (u := .int .i64 b) rfl
  have o2 := blk_cell HBX.out (i := 2) (u := .int .i64 t) rfl
  have o3 := blk_cell HBX.out (i := 3) (u := .string p) rfl
  have o4 := blk_cell HBX.out (i := 4) (u := .int .i64 c) rfl
  have o5 := blk_cell HBX.out (i := 5) (u := .slice ps ns cs) rfl
  have CC := Ob.op_ref a b t p c (.slice ps ns cs) s _ hp (hd.below HB1.out)
  have HR : Hid (putR S L ((a, b), t, p, c, s) = ((0, k), S, L)) := by unfold Hid putR; rw [ho, if_pos h0]
  rw [ho] at CC
  have h0b : (k == 0) = false := by simpa using h0
  clear h hd hp hi ho h0
  go_enter Tryz.func41, Tryz.ntmps41
  go_wp2_with fail
  refine CC.mono ?_
  rintro e w2 ⟨rfl, hb2⟩
  have HB2 : Hid (Below w.heap.size w w2) := bel HB1.out hb2
  have HBX2 : Hid (w2.heap[w.heap.size]? = some (.cells #[.int .i64 a, .int .i64 b, .int .i64 t, .string p, .int .i64 c, .slice ps ns cs] 33)) := (hb2.block _ (Array.getElem?_eq_some_iff.1 HBX.out).1).trans HBX.out
  clear hb2 CC o0 o1 o2 o3 o4 o5
  go_wp2_with fail
  go_ret2
  exact RPut.no HAT.out k HR.out HB2.out
set_option maxRecDepth 100000 in
set_option maxHeartbeats 4000000 in
theorem rp_known (B Q E : Nat) (S : Dq) (L : List Ox) (H : Nat → Prop) (a b t : Int) (p : ByteArray) (c : Int) (ps : Option Addr) (ns cs : Nat) (s : List Dt) (w : World) (h : RBAt B w Q E S L H) (hd : DtsAt w (.slice ps ns cs) s) (hi : In (fun g => g < B) (.slice ps ns cs)) (hp : p.size ≤ maxLen) (ho : opE ((a, b), t, p, c, s) = 0) (hkn : b ≤ kn S a) :
    Calls Tryz.prog 41 #[.pointer (some ⟨Q, 0, none⟩), .agg #[.int .i64 a, .int .i64 b, .int .i64 t, .string p, .int .i64 c, .slice ps ns cs]] w (RPut B w Q E H (putR S L ((a, b), t, p, c, s))) := by
  have HAT : Hid (RBAt B w Q E S L H) := h
  have HB1 : Hid (Below w.heap.size w (w.alloc (.cells #[.int .i64 a, .int .i64 b, .int .i64 t, .string p, .int .i64 c, .slice ps ns cs] 33))) := (Below.refl _ w).alloc (Nat.le_refl _) _
  have HBX : Hid ((w.alloc (.cells #[.int .i64 a, .int .i64 b, .int .i64 t, .string p, .int .i64 c, .slice ps ns cs] 33)).heap[w.heap.size]? = some (.cells #[.int .i64 a, .int .i64 b, .int .i64 t, .string p, .int .i64 c, .slice ps ns cs] 33)) := heap_alloc_new w _
  have o0 := blk_cell HBX.out (i := 0) (u := .int .i64 a) rfl
  have o1 := blk_cell HBX.out (i := 1) (u := .int .i64 b) rfl
  have o2 := blk_cell HBX.out (i := 2) (u := .int .i64 t) rfl
  have o3 := blk_cell HBX.out (i := 3) (u := .string p) rfl
  have o4 := blk_cell HBX.out (i := 4) (u := .int .i64 c) rfl
  have o5 := blk_cell HBX.out (i := 5) (u := .slice ps ns cs) rfl
  have CC := Ob.op_ref a b t p c (.slice ps ns cs) s _ hp (hd.below HB1.out)
  rw [ho] at CC
  obtain ⟨d1, d2, d3, d4⟩ := dotE_iff.1 (opE_zero.1 ho).1
  simp only at d1 d2 d3 d4
  obtain ⟨vL, M, F, m, hM, hH⟩ := h
  obtain ⟨q0, N, cL, rfl, HNL⟩ := own_shape m.row
  have HM : Hid (RB B w Q E (.slice q0 N cL) S M F) := m
  have HML : Hid (M.map (·.1) = L) := hM
  have HHH : Hid (∀ g, H g ↔ (F g ∨ g = Q ∨ (Value.slice q0 N cL).ownBlock = some g)) := hH
  have HLN : Hid (L.length = N) := by unfold Hid; rw [← hM, List.length_map, HNL.out]
  have hN4 : N ≤ 400 := by have := m.wt.few; rw [List.length_map] at this; have := HNL.out; omega
  have hk8 : a.toNat - 1 < 8 := by omega
  have HR : Hid (putR S L ((a, b), t, p, c, s) = ((0, 0), S, L)) := by
    unfold Hid putR
    rw [if_neg (by simpa using ho)]
    have hh : hasW S L ((a, b), t, p, c, s) = true := by unfold hasW; simp only; rw [decide_eq_true hkn, Bool.or_true]
    rw [hh, if_pos rfl]
  obtain ⟨q, hq⟩ : ∃ q, q = kn S a := ⟨_, rfl⟩
  have HQN : Hid (q = kn S a) := hq
  rw [← hq] at hkn
  clear hd hp hi ho m hM hH hq
  go_enter Tryz.func41, Tryz.ntmps41
  go_wp2_with fail
  refine CC.mono ?_
  rintro e w2 ⟨rfl, hb2⟩
  have HB2 : Hid (Below w.heap.size w w2) := bel HB1.out hb2
  have HBX2 : Hid (w2.heap[w.heap.size]? = some (.cells #[.int .i64 a, .int .i64 b, .int .i64 t, .string p, .int .i64 c, .slice ps ns cs] 33)) := (hb2.block _ (Array.getElem?_eq_some_iff.1 HBX.out).1).trans HBX.out
  clear hb2 CC o0 o1 o2 o3 o4 o5
  have HM2 : Hid (RB B w2 Q E (.slice q0 N cL) S M F) := HM.out.below HB2.out
  have b0 := blk_cell HM2.out.blk (i := 0) (u := .pointer (some ⟨E, 0, none⟩)) rfl
  obtain ⟨gk, k0, k1⟩ := kn_cell HM2.out.doc
  have k2 := k1 a d1 d2
  rw [← HQN.out] at k2
  have x0 := blk_cell HBX2.out (i := 0) (u := .int .i64 a) rfl
  have x1 := blk_cell HBX2.out (i := 1) (u := .int .i64 b) rfl
  clear k1
  go_wp2_with fail
  go_quiet (fail)
  generalize hwq : World.drewN _ _ = wq
  have hbq : Below w2.heap.size w2 wq := by rw [← hwq]; exact bel_drew (Below.refl _ _) _
  have HBq : Hid (Below w.heap.size w wq) := bel HB2.out hbq
  have HBXq : Hid (wq.heap[w.heap.size]? = some (.cells #[.int .i64 a, .int .i64 b, .int .i64 t, .string p, .int .i64 c, .slice ps ns cs] 33)) := (hbq.block _ (Array.getElem?_eq_some_iff.1 HBX2.out).1).trans HBX2.out
  clear hwq hbq b0 k0 k2 x0 x1 HM2
  go_wp2_with fail
  go_ret2
  exact RPut.no HAT.out 0 HR.out HBq.out
set_option maxRecDepth 100000 in
set_option maxHeartbeats 4000000 in
theorem rp_waits (B Q E : Nat) (S : Dq) (L : List Ox) (H : Nat → Prop) (a b t : Int) (p : ByteArray) (c : Int) (ps : Option Addr) (ns cs : Nat) (s : List Dt) (w : World) (h : RBAt B w Q E S L H) (hd : DtsAt w (.slice ps ns cs) s) (hi : In (fun g => g < B) (.slice ps ns cs)) (hp : p.size ≤ maxLen) (ho : opE ((a, b), t, p, c, s) = 0) (hkn : ¬ b ≤ kn S a) (hdi : (dotIn L (a, b)).isSome = true) :
    Calls Tryz.prog 41 #[.pointer (some ⟨Q, 0, none⟩), .agg #[.int .i64 a, .int .i64 b, .int .i64 t, .string p, .int .i64 c, .slice ps ns cs]] w (RPut B w Q E H (putR S L ((a, b), t, p, c, s))) := by
  have HAT : Hid (RBAt B w Q E S L H) := h
  have HB1 : Hid (Below w.heap.size w (w.alloc (.cells #[.int .i64 a, .int .i64 b, .int .i64 t, .string p, .int .i64 c, .slice ps ns cs] 33))) := (Below.refl _ w).alloc (Nat.le_refl _) _
  have HBX : Hid ((w.alloc (.cells #[.int .i64 a, .int .i64 b, .int .i64 t, .string p, .int .i64 c, .slice ps ns cs] 33)).heap[w.heap.size]? = some (.cells #[.int .i64 a, .int .i64 b, .int .i64 t, .string p, .int .i64 c, .slice ps ns cs] 33)) := heap_alloc_new w _
  have o0 := blk_cell HBX.out (i := 0) (u := .int .i64 a) rfl
  have o1 := blk_cell HBX.out (i := 1) (u := .int .i64 b) rfl
  have o2 := blk_cell HBX.out (i := 2) (u := .int .i64 t) rfl
  have o3 := blk_cell HBX.out (i := 3) (u := .string p) rfl
  have o4 := blk_cell HBX.out (i := 4) (u := .int .i64 c) rfl
  have o5 := blk_cell HBX.out (i := 5) (u := .slice ps ns cs) rfl
  have CC := Ob.op_ref a b t p c (.slice ps ns cs) s _ hp (hd.below HB1.out)
  rw [ho] at CC
  obtain ⟨d1, d2, d3, d4⟩ := dotE_iff.1 (opE_zero.1 ho).1
  simp only at d1 d2 d3 d4
  obtain ⟨vL, M, F, m, hM, hH⟩ := h
  obtain ⟨q0, N, cL, rfl, HNL⟩ := own_shape m.row
  have HM : Hid (RB B w Q E (.slice q0 N cL) S M F) := m
  have HML : Hid (M.map (·.1) = L) := hM
  have HHH : Hid (∀ g, H g ↔ (F g ∨ g = Q ∨ (Value.slice q0 N cL).ownBlock = some g)) := hH
  have HLN : Hid (L.length = N) := by unfold Hid; rw [← hM, List.length_map, HNL.out]
  have hN4 : N ≤ 400 := by have := m.wt.few; rw [List.length_map] at this; have := HNL.out; omega
  have hk8 : a.toNat - 1 < 8 := by omega
  have HR : Hid (putR S L ((a, b), t, p, c, s) = ((0, 0), S, L)) := by
    unfold Hid putR
    rw [if_neg (by simpa using ho)]
    have hh : hasW S L ((a, b), t, p, c, s) = true := by unfold hasW; simp only; rw [hdi, Bool.true_or]
    rw [hh, if_pos rfl]
  have HDI : Hid ((dotIn L (a, b)).isSome = true) := hdi
  obtain ⟨q, hq⟩ : ∃ q, q = kn S a := ⟨_, rfl⟩
  have HQN : Hid (q = kn S a) := hq
  rw [← hq] at hkn
  clear hd hp hi ho m hM hH hq hdi
  go_enter Tryz.func41, Tryz.ntmps41
  go_wp2_with fail
  refine CC.mono ?_
  rintro e w2 ⟨rfl, hb2⟩
  have HB2 : Hid (Below w.heap.size w w2) := bel HB1.out hb2
  have HBX2 : Hid (w2.heap[w.heap.size]? = some (.cells #[.int .i64 a, .int .i64 b, .int .i64 t, .string p, .int .i64 c, .slice ps ns cs] 33)) := (hb2.block _ (Array.getElem?_eq_some_iff.1 HBX.out).1).trans HBX.out
  clear hb2 CC o0 o1 o2 o3 o4 o5
  have HM2 : Hid (RB B w2 Q E (.slice q0 N cL) S M F) := HM.out.below HB2.out
  have b0 := blk_cell HM2.out.blk (i := 0) (u := .pointer (some ⟨E, 0, none⟩)) rfl
  obtain ⟨gk, k0, k1⟩ := kn_cell HM2.out.doc
  have k2 := k1 a d1 d2
  rw [← HQN.out] at k2
  have x0 := blk_cell HBX2.out (i := 0) (u := .int .i64 a) rfl
  have x1 := blk_cell HBX2.out (i := 1) (u := .int .i64 b) rfl
  clear k1
  go_wp2_with fail
  go_quiet (fail)
  generalize hwq : World.drewN _ _ = wq
  have hbq : Below w2.heap.size w2 wq := by rw [← hwq]; exact bel_drew (Below.refl _ _) _
  have HBq : Hid (Below w.heap.size w wq) := bel HB2.out hbq
  have HBXq : Hid (wq.heap[w.heap.size]? = some (.cells #[.int .i64 a, .int .i64 b, .int .i64 t, .string p, .int .i64 c, .slice ps ns cs] 33)) := (hbq.block _ (Array.getElem?_eq_some_iff.1 HBX2.out).1).trans HBX2.out
  clear hwq hbq b0 k0 k2 x0 x1 HM2
  go_wp2_with fail
  go_loopw [7] (fun vi wr => ∃ (i : Nat), i ≤ N ∧ vi = .int .i64 i ∧ Hid (∀ j, j < i → (L.getD j oz).1 ≠ (a, b)) ∧ Hid (Below wq.heap.size wq wr)) (fun vi _ => N - (intOf vi).toNat)
  case atStart => exact ⟨0, by omega, rfl, fun j hj => by omega, Below.refl _ _⟩
  case round =>
    obtain ⟨i, hiN, rfl, HNO, HBk⟩ := hrel
    have HBw : Hid (Below w.heap.size w wr) := bel HBq.out HBk.out
    have HMk : Hid (RB B wr Q E (.slice q0 N cL) S M F) := HM.out.below HBw.out
    have HBXk : Hid (wr.heap[w.heap.size]? = some (.cells #[.int .i64 a, .int .i64 b, .int .i64 t, .string p, .int .i64 c, .slice ps ns cs] 33)) := (HBk.out.block _ (Array.getElem?_eq_some_iff.1 HBXq.out).1).trans HBXq.out
    have b1 := blk_cell HMk.out.blk (i := 1) (u := .slice q0 N cL) rfl
    by_cases hlt : i < N
    · have hltz : (i : Int) < N := by omega
      obtain ⟨g, rfl⟩ : ∃ g, q0 = some ⟨g, 0, none⟩ := by
        rcases HMk.out.row.shape with ⟨e, e2⟩ | ⟨g9, c9, e, _⟩
        · injection e with _ e _; omega
        · injection e with e _ _; exact ⟨g9, e⟩
      have hiM : i < M.length := by rw [← HNL.out]; exact hlt
      obtain ⟨e0, e1⟩ := row_dot HMk.out.row hiM
      rw [HML.out] at e0 e1
      obtain ⟨x, hx⟩ : ∃ x, x = (L.getD i oz).1 := ⟨_, rfl⟩
      rw [← hx] at e0 e1
      have HX : Hid (x = (L.getD i oz).1) := hx
      obtain ⟨xa, xb⟩ := x
      simp only at e0 e1
      have x0 := blk_cell HBXk.out (i := 0) (u := .int .i64 a) rfl
      have x1 := blk_cell HBXk.out (i := 1) (u := .int .i64 b) rfl
      have hq : ∀ w, (binOp .eql 30 (.agg #[.int .i64 xa, .int .i64 xb]) (.agg #[.int .i64 a, .int .i64 b])).run Tryz.prog w = .ok (.bool (decide (((xa, xb) : Dt) = (a, b)))) w := fun w => Ol.eql_dot xa a xb b w
      clear hx hiM
      obtain ⟨bt, hbt⟩ : ∃ bt, bt = decide (((xa, xb) : Dt) = (a, b)) := ⟨_, rfl⟩
      have HBT : Hid (bt = decide (((xa, xb) : Dt) = (a, b))) := hbt
      rw [← hbt] at hq
      clear hbt
      cases bt
      case true =>
        go_wp2_with fail
        go_quiet (fail)
        generalize hwz : World.drewN _ _ = wz
        have HBz : Hid (Below w.heap.size w wz) := by unfold Hid; rw [← hwz]; exact bel_drew HBw.out _
        clear hwz
        go_wp2_with fail
        go_ret2
        exact RPut.no HAT.out 0 HR.out HBz.out
      case false =>
        have HNE : Hid (((xa, xb) : Dt) ≠ (a, b)) := of_decide_eq_false HBT.out.symm
        have HNO2 : Hid (∀ j, j < i + 1 → (L.getD j oz).1 ≠ (a, b)) := fun j hj e => by
          rcases Nat.lt_succ_iff_lt_or_eq.1 hj with h9 | rfl
          · exact HNO.out j h9 e
          · rw [← HX.out] at e; exact HNE.out e
        go_wp2_with fail
        go_quiet (fail)
        generalize hwz : World.drewN _ _ = wz
        have HBz : Hid (Below wq.heap.size wq wz) := by unfold Hid; rw [← hwz]; exact bel_drew HBk.out _
        clear hwz
        go_wp2_with fail
        go_roundw
        case rel => exact ⟨i + 1, by omega, by go_num, HNO2, HBz⟩
        case measure => simp [intOf]; omega
    · have hltz : ¬ (i : Int) < N := by omega
      have HDN : Hid (dotIn L (a, b) = none) := dotIn_all fun j hj => HNO.out j (by rw [HLN.out] at hj; omega)
      have h9 := HDI.out
      rw [HDN.out] at h9
      cases h9
set_option maxRecDepth 100000 in
set_option maxHeartbeats 4000000 in
theorem rp_full (B Q E : Nat) (S : Dq) (L : List Ox) (H : Nat → Prop) (a b t : Int) (p : ByteArray) (c : Int) (ps : Option Addr) (ns cs : Nat) (s : List Dt) (w : World) (h : RBAt B w Q E S L H) (hd : DtsAt w (.slice ps ns cs) s) (hi : In (fun g => g < B) (.slice ps ns cs)) (hp : p.size ≤ maxLen) (ho : opE ((a, b), t, p, c, s) = 0) (hkn : ¬ b ≤ kn S a) (hdi : dotIn L (a, b) = none) (hl : 400 ≤ L.length) :
    Calls Tryz.prog 41 #[.pointer (some ⟨Q, 0, none⟩), .agg #[.int .i64 a, .int .i64 b, .int .i64 t, .string p, .int .i64 c, .slice ps ns cs]] w (RPut B w Q E H (putR S L ((a, b), t, p, c, s))) := by
  have HAT : Hid (RBAt B w Q E S L H) := h
  have HB1 : Hid (Below w.heap.size w (w.alloc (.cells #[.int .i64 a, .int .i64 b, .int .i64 t, .string p, .int .i64 c, .slice ps ns cs] 33))) := (Below.refl _ w).alloc (Nat.le_refl _) _
  have HBX : Hid ((w.alloc (.cells #[.int .i64 a, .int .i64 b, .int .i64 t, .string p, .int .i64 c, .slice ps ns cs] 33)).heap[w.heap.size]? = some (.cells #[.int .i64 a, .int .i64 b, .int .i64 t, .string p, .int .i64 c, .slice ps ns cs] 33)) := heap_alloc_new w _
  have o0 := blk_cell HBX.out (i := 0) (u := .int .i64 a) rfl
  have o1 := blk_cell HBX.out (i := 1) (u := .int .i64 b) rfl
  have o2 := blk_cell HBX.out (i := 2) (u := .int .i64 t) rfl
  have o3 := blk_cell HBX.out (i := 3) (u := .string p) rfl
  have o4 := blk_cell HBX.out (i := 4) (u := .int .i64 c) rfl
  have o5 := blk_cell HBX.out (i := 5) (u := .slice ps ns cs) rfl
  have CC := Ob.op_ref a b t p c (.slice ps ns cs) s _ hp (hd.below HB1.out)
  rw [ho] at CC
  obtain ⟨d1, d2, d3, d4⟩ := dotE_iff.1 (opE_zero.1 ho).1
  simp only at d1 d2 d3 d4
  obtain ⟨vL, M, F, m, hM, hH⟩ := h
  obtain ⟨q0, N, cL, rfl, HNL⟩ := own_shape m.row
  have HM : Hid (RB B w Q E (.slice q0 N cL) S M F) := m
  have HML : Hid (M.map (·.1) = L) := hM
  have HHH : Hid (∀ g, H g ↔ (F g ∨ g = Q ∨ (Value.slice q0 N cL).ownBlock = some g)) := hH
  have HLN : Hid (L.length = N) := by unfold Hid; rw [← hM, List.length_map, HNL.out]
  have hN4 : N ≤ 400 := by have := m.wt.few; rw [List.length_map] at this; have := HNL.out; omega
  have hk8 : a.toNat - 1 < 8 := by omega
  have HR : Hid (putR S L ((a, b), t, p, c, s) = ((0, 4), S, L)) := by
    unfold Hid putR
    rw [if_neg (by simpa using ho)]
    have hh : hasW S L ((a, b), t, p, c, s) = false := by unfold hasW; simp only; rw [hdi, decide_eq_false hkn]; rfl
    rw [hh, if_neg (by decide), if_pos hl]
  have HDI : Hid (dotIn L (a, b) = none) := hdi
  have hN400 : (400 : Int) ≤ N := by have := HLN.out; omega
  obtain ⟨q, hq⟩ : ∃ q, q = kn S a := ⟨_, rfl⟩
  have HQN : Hid (q = kn S a) := hq
  rw [← hq] at hkn
  clear hd hp hi ho m hM hH hq hdi hl
  go_enter Tryz.func41, Tryz.ntmps41
  go_wp2_with fail
  refine CC.mono ?_
  rintro e w2 ⟨rfl, hb2⟩
  have HB2 : Hid (Below w.heap.size w w2) := bel HB1.out hb2
  have HBX2 : Hid (w2.heap[w.heap.size]? = some (.cells #[.int .i64 a, .int .i64 b, .int .i64 t, .string p, .int .i64 c, .slice ps ns cs] 33)) := (hb2.block _ (Array.getElem?_eq_some_iff.1 HBX.out).1).trans HBX.out
  clear hb2 CC o0 o1 o2 o3 o4 o5
  have HM2 : Hid (RB B w2 Q E (.slice q0 N cL) S M F) := HM.out.below HB2.out
  have b0 := blk_cell HM2.out.blk (i := 0) (u := .pointer (some ⟨E, 0, none⟩)) rfl
  obtain ⟨gk, k0, k1⟩ := kn_cell HM2.out.doc
  have k2 := k1 a d1 d2
  rw [← HQN.out] at k2
  have x0 := blk_cell HBX2.out (i := 0) (u := .int .i64 a) rfl
  have x1 := blk_cell HBX2.out (i := 1) (u := .int .i64 b) rfl
  clear k1
  go_wp2_with fail
  go_quiet (fail)
  generalize hwq : World.drewN _ _ = wq
  have hbq : Below w2.heap.size w2 wq := by rw [← hwq]; exact bel_drew (Below.refl _ _) _
  have HBq : Hid (Below w.heap.size w wq) := bel HB2.out hbq
  have HBXq : Hid (wq.heap[w.heap.size]? = some (.cells #[.int .i64 a, .int .i64 b, .int .i64 t, .string p, .int .i64 c, .slice ps ns cs] 33)) := (hbq.block _ (Array.getElem?_eq_some_iff.1 HBX2.out).1).trans HBX2.out
  clear hwq hbq b0 k0 k2 x0 x1 HM2
  go_wp2_with fail
  go_loopw [7] (fun vi wr => ∃ (i : Nat), i ≤ N ∧ vi = .int .i64 i ∧ Hid (∀ j, j < i → (L.getD j oz).1 ≠ (a, b)) ∧ Hid (Below wq.heap.size wq wr)) (fun vi _ => N - (intOf vi).toNat)
  case atStart => exact ⟨0, by omega, rfl, fun j hj => by omega, Below.refl _ _⟩
  case round =>
    obtain ⟨i, hiN, rfl, HNO, HBk⟩ := hrel
    have HBw : Hid (Below w.heap.size w wr) := bel HBq.out HBk.out
    have HMk : Hid (RB B wr Q E (.slice q0 N cL) S M F) := HM.out.below HBw.out
    have HBXk : Hid (wr.heap[w.heap.size]? = some (.cells #[.int .i64 a, .int .i64 b, .int .i64 t, .string p, .int .i64 c, .slice ps ns cs] 33)) := (HBk.out.block _ (Array.getElem?_eq_some_iff.1 HBXq.out).1).trans HBXq.out
    have b1 := blk_cell HMk.out.blk (i := 1) (u := .slice q0 N cL) rfl
    by_cases hlt : i < N
    · have hltz : (i : Int) < N := by omega
      obtain ⟨g, rfl⟩ : ∃ g, q0 = some ⟨g, 0, none⟩ := by
        rcases HMk.out.row.shape with ⟨e, e2⟩ | ⟨g9, c9, e, _⟩
        · injection e with _ e _; omega
        · injection e with e _ _; exact ⟨g9, e⟩
      have hiM : i < M.length := by rw [← HNL.out]; exact hlt
      obtain ⟨e0, e1⟩ := row_dot HMk.out.row hiM
      rw [HML.out] at e0 e1
      obtain ⟨x, hx⟩ : ∃ x, x = (L.getD i oz).1 := ⟨_, rfl⟩
      rw [← hx] at e0 e1
      have HX : Hid (x = (L.getD i oz).1) := hx
      obtain ⟨xa, xb⟩ := x
      simp only at e0 e1
      have x0 := blk_cell HBXk.out (i := 0) (u := .int .i64 a) rfl
      have x1 := blk_cell HBXk.out (i := 1) (u := .int .i64 b) rfl
      have hq : ∀ w, (binOp .eql 30 (.agg #[.int .i64 xa, .int .i64 xb]) (.agg #[.int .i64 a, .int .i64 b])).run Tryz.prog w = .ok (.bool (decide (((xa, xb) : Dt) = (a, b)))) w := fun w => Ol.eql_dot xa a xb b w
      clear hx hiM
      obtain ⟨bt, hbt⟩ : ∃ bt, bt = decide (((xa, xb) : Dt) = (a, b)) := ⟨_, rfl⟩
      have HBT : Hid (bt = decide (((xa, xb) : Dt) = (a, b))) := hbt
      rw [← hbt] at hq
      clear hbt
      have hbf : bt = false := by
        rw [HBT.out]
        refine decide_eq_false fun e => ?_
        have h9 := dotIn_none HDI.out (L.getD i oz) (by rw [List.getD_eq_getElem?_getD, List.getElem?_eq_getElem (by rw [HLN.out]; exact hlt)]; exact List.getElem_mem _)
        exact h9 (by rw [← HX.out]; exact e)
      subst hbf
      have HNE : Hid (((xa, xb) : Dt) ≠ (a, b)) := of_decide_eq_false HBT.out.symm
      have HNO2 : Hid (∀ j, j < i + 1 → (L.getD j oz).1 ≠ (a, b)) := fun j hj e => by
        rcases Nat.lt_succ_iff_lt_or_eq.1 hj with h9 | rfl
        · exact HNO.out j h9 e
        · rw [← HX.out] at e; exact HNE.out e
      go_wp2_with fail
      go_quiet (fail)
      generalize hwz : World.drewN _ _ = wz
      have HBz : Hid (Below wq.heap.size wq wz) := by unfold Hid; rw [← hwz]; exact bel_drew HBk.out _
      clear hwz
      go_wp2_with fail
      go_roundw
      case rel => exact ⟨i + 1, by omega, by go_num, HNO2, HBz⟩
      case measure => simp [intOf]; omega
    · have hltz : ¬ (i : Int) < N := by omega
      have HDN : Hid (dotIn L (a, b) = none) := dotIn_all fun j hj => HNO.out j (by rw [HLN.out] at hj; omega)
      go_wp2_with fail
      go_ret2
      exact RPut.no HAT.out 4 HR.out HBw.out
set_option maxRecDepth 100000 in
set_option maxHeartbeats 16000000 in
theorem rp_new (B Q E : Nat) (S : Dq) (L : List Ox) (H : Nat → Prop) (a b t : Int) (p : ByteArray) (c : Int) (ps : Option Addr) (ns cs : Nat) (s : List Dt) (w : World) (h : RBAt B w Q E S L H) (hd : DtsAt w (.slice ps ns cs) s) (hi : In (fun g => g < B) (.slice ps ns cs)) (hp : p.size ≤ maxLen) (ho : opE ((a, b), t, p, c, s) = 0) (hkn : ¬ b ≤ kn S a) (hdi : dotIn L (a, b) = none) (hl : ¬ 400 ≤ L.length) :
    Calls Tryz.prog 41 #[.pointer (some ⟨Q, 0, none⟩), .agg #[.int .i64 a, .int .i64 b, .int .i64 t, .string p, .int .i64 c, .slice ps ns cs]] w (RPut B w Q E H (putR S L ((a, b), t, p, c, s))) := by
  obtain ⟨i0, hi0, hz0, hz1, hz2⟩ := info_parts Ii.infoO
  have HAT : Hid (RBAt B w Q E S L H) := h
  have HB1 : Hid (Below w.heap.size w (w.alloc (.cells #[.int .i64 a, .int .i64 b, .int .i64 t, .string p, .int .i64 c, .slice ps ns cs] 33))) := (Below.refl _ w).alloc (Nat.le_refl _) _
  have HBX : Hid ((w.alloc (.cells #[.int .i64 a, .int .i64 b, .int .i64 t, .string p, .int .i64 c, .slice ps ns cs] 33)).heap[w.heap.size]? = some (.cells #[.int .i64 a, .int .i64 b, .int .i64 t, .string p, .int .i64 c, .slice ps ns cs] 33)) := heap_alloc_new w _
  have o0 := blk_cell HBX.out (i := 0) (u := .int .i64 a) rfl
  have o1 := blk_cell HBX.out (i := 1) (u := .int .i64 b) rfl
  have o2 := blk_cell HBX.out (i := 2) (u := .int .i64 t) rfl
  have o3 := blk_cell HBX.out (i := 3) (u := .string p) rfl
  have o4 := blk_cell HBX.out (i := 4) (u := .int .i64 c) rfl
  have o5 := blk_cell HBX.out (i := 5) (u := .slice ps ns cs) rfl
  have CC := Ob.op_ref a b t p c (.slice ps ns cs) s _ hp (hd.below HB1.out)
  rw [ho] at CC
  obtain ⟨d1, d2, d3, d4⟩ := dotE_iff.1 (opE_zero.1 ho).1
  simp only at d1 d2 d3 d4
  obtain ⟨vL, M, F, m, hM, hH⟩ := h
  obtain ⟨q0, N, cL, rfl, HNL⟩ := own_shape m.row
  have HM : Hid (RB B w Q E (.slice q0 N cL) S M F) := m
  have HML : Hid (M.map (·.1) = L) := hM
  have HHH : Hid (∀ g, H g ↔ (F g ∨ g = Q ∨ (Value.slice q0 N cL).ownBlock = some g)) := hH
  have HLN : Hid (L.length = N) := by unfold Hid; rw [← hM, List.length_map, HNL.out]
  have hN4 : N ≤ 400 := by have := m.wt.few; rw [List.length_map] at this; have := HNL.out; omega
  have hk8 : a.toNat - 1 < 8 := by omega
  have hh : hasW S L ((a, b), t, p, c, s) = false := by unfold hasW; simp only; rw [hdi, decide_eq_false hkn]; rfl
  have HWT : Hid (Wt (M.map (·.1) ++ [((a, b), t, p, c, s)])) := by
    unfold Hid
    have h9 := m.wt
    rw [hM] at h9 ⊢
    exact h9.push ho hh hl
  obtain ⟨r, hr⟩ : ∃ r, r = putR S L ((a, b), t, p, c, s) := ⟨_, rfl⟩
  have HR : Hid (Ja.drain (N + 1) 0 S (L ++ [((a, b), t, p, c, s)]) = r) := by
    unfold Hid
    rw [hr]
    unfold putR
    rw [if_neg (by simpa using ho), hh, if_neg (by decide), if_neg hl, HLN.out]
  rw [← hr]
  have HDI : Hid (dotIn L (a, b) = none) := hdi
  have HDT : Hid (DtsAt w (.slice ps ns cs) s) := hd
  have HIN : Hid (In (fun g => g < B) (.slice ps ns cs)) := hi
  have HPZ : Hid (p.size ≤ maxLen) := hp
  have hN400 : ¬ (400 : Int) ≤ N := by have := HLN.out; omega
  obtain ⟨q, hq⟩ : ∃ q, q = kn S a := ⟨_, rfl⟩
  have HQN : Hid (q = kn S a) := hq
  rw [← hq] at hkn
  clear hd hp hi ho m hM hH hq hdi hl hh hr
  go_enter Tryz.func41, Tryz.ntmps41
  go_wp2_with fail
  refine CC.mono ?_
  rintro e w2 ⟨rfl, hb2⟩
  have HB2 : Hid (Below w.heap.size w w2) := bel HB1.out hb2
  have HBX2 : Hid (w2.heap[w.heap.size]? = some (.cells #[.int .i64 a, .int .i64 b, .int .i64 t, .string p, .int .i64 c, .slice ps ns cs] 33)) := (hb2.block _ (Array.getElem?_eq_some_iff.1 HBX.out).1).trans HBX.out
  clear hb2 CC o0 o1 o2 o3 o4 o5
  have HM2 : Hid (RB B w2 Q E (.slice q0 N cL) S M F) := HM.out.below HB2.out
  have b0 := blk_cell HM2.out.blk (i := 0) (u := .pointer (some ⟨E, 0, none⟩)) rfl
  obtain ⟨gk, k0, k1⟩ := kn_cell HM2.out.doc
  have k2 := k1 a d1 d2
  rw [← HQN.out] at k2
  have x0 := blk_cell HBX2.out (i := 0) (u := .int .i64 a) rfl
  have x1 := blk_cell HBX2.out (i := 1) (u := .int .i64 b) rfl
  clear k1
  go_wp2_with fail
  go_quiet (fail)
  generalize hwq : World.drewN _ _ = wq
  have hbq : Below w2.heap.size w2 wq := by rw [← hwq]; exact bel_drew (Below.refl _ _) _
  have HBq : Hid (Below w.heap.size w wq) := bel HB2.out hbq
  have HBXq : Hid (wq.heap[w.heap.size]? = some (.cells #[.int .i64 a, .int .i64 b, .int .i64 t, .string p, .int .i64 c, .slice ps ns cs] 33)) := (hbq.block _ (Array.getElem?_eq_some_iff.1 HBX2.out).1).trans HBX2.out
  clear hwq hbq b0 k0 k2 x0 x1 HM2
  go_wp2_with fail
  go_loopw [7] (fun vi wr => ∃ (i : Nat), i ≤ N ∧ vi = .int .i64 i ∧ Hid (∀ j, j < i → (L.getD j oz).1 ≠ (a, b)) ∧ Hid (Below wq.heap.size wq wr)) (fun vi _ => N - (intOf vi).toNat)
  case atStart => exact ⟨0, by omega, rfl, fun j hj => by omega, Below.refl _ _⟩
  case round =>
    obtain ⟨i, hiN, rfl, HNO, HBk⟩ := hrel
    have HBw : Hid (Below w.heap.size w wr) := bel HBq.out HBk.out
    have HMk : Hid (RB B wr Q E (.slice q0 N cL) S M F) := HM.out.below HBw.out
    have HBXk : Hid (wr.heap[w.heap.size]? = some (.cells #[.int .i64 a, .int .i64 b, .int .i64 t, .string p, .int .i64 c, .slice ps ns cs] 33)) := (HBk.out.block _ (Array.getElem?_eq_some_iff.1 HBXq.out).1).trans HBXq.out
    have b1 := blk_cell HMk.out.blk (i := 1) (u := .slice q0 N cL) rfl
    by_cases hlt : i < N
    · have hltz : (i : Int) < N := by omega
      obtain ⟨g, rfl⟩ : ∃ g, q0 = some ⟨g, 0, none⟩ := by
        rcases HMk.out.row.shape with ⟨e, e2⟩ | ⟨g9, c9, e, _⟩
        · injection e with _ e _; omega
        · injection e with e _ _; exact ⟨g9, e⟩
      have hiM : i < M.length := by rw [← HNL.out]; exact hlt
      obtain ⟨e0, e1⟩ := row_dot HMk.out.row hiM
      rw [HML.out] at e0 e1
      obtain ⟨x, hx⟩ : ∃ x, x = (L.getD i oz).1 := ⟨_, rfl⟩
      rw [← hx] at e0 e1
      have HX : Hid (x = (L.getD i oz).1) := hx
      obtain ⟨xa, xb⟩ := x
      simp only at e0 e1
      have x0 := blk_cell HBXk.out (i := 0) (u := .int .i64 a) rfl
      have x1 := blk_cell HBXk.out (i := 1) (u := .int .i64 b) rfl
      have hq : ∀ w, (binOp .eql 30 (.agg #[.int .i64 xa, .int .i64 xb]) (.agg #[.int .i64 a, .int .i64 b])).run Tryz.prog w = .ok (.bool (decide (((xa, xb) : Dt) = (a, b)))) w := fun w => Ol.eql_dot xa a xb b w
      clear hx hiM
      obtain ⟨bt, hbt⟩ : ∃ bt, bt = decide (((xa, xb) : Dt) = (a, b)) := ⟨_, rfl⟩
      have HBT : Hid (bt = decide (((xa, xb) : Dt) = (a, b))) := hbt
      rw [← hbt] at hq
      clear hbt
      have hbf : bt = false := by
        rw [HBT.out]
        refine decide_eq_false fun e => ?_
        have h9 := dotIn_none HDI.out (L.getD i oz) (by rw [List.getD_eq_getElem?_getD, List.getElem?_eq_getElem (by rw [HLN.out]; exact hlt)]; exact List.getElem_mem _)
        exact h9 (by rw [← HX.out]; exact e)
      subst hbf
      have HNE : Hid (((xa, xb) : Dt) ≠ (a, b)) := of_decide_eq_false HBT.out.symm
      have HNO2 : Hid (∀ j, j < i + 1 → (L.getD j oz).1 ≠ (a, b)) := fun j hj e => by
        rcases Nat.lt_succ_iff_lt_or_eq.1 hj with h9 | rfl
        · exact HNO.out j h9 e
        · rw [← HX.out] at e; exact HNE.out e
      go_wp2_with fail
      go_quiet (fail)
      generalize hwz : World.drewN _ _ = wz
      have HBz : Hid (Below wq.heap.size wq wz) := by unfold Hid; rw [← hwz]; exact bel_drew HBk.out _
      clear hwz
      go_wp2_with fail
      go_roundw
      case rel => exact ⟨i + 1, by omega, by go_num, HNO2, HBz⟩
      case measure => simp [intOf]; omega
    · have hltz : ¬ (i : Int) < N := by omega
      have HDN : Hid (dotIn L (a, b) = none) := dotIn_all fun j hj => HNO.out j (by rw [HLN.out] at hj; omega)
      have HRW : Hid (wr.ownsRow 0 33 6 (.slice q0 N cL) N (flatO M)) := by
        have h9 := own_base HMk.out.row
        rw [← HNL.out] at h9
        exact h9
      have HBA : Hid (∀ O, Below wr.heap.size wr (wr.alloc O).drew) := fun O => below_ad wr O
      have HOA : Hid (∀ O, (wr.alloc O).drew.ownsRow 0 33 6 (.slice q0 N cL) N (flatO M)) := fun O => own_below HRW.out (HBA.out O)
      have HQB : Hid (∀ O, (wr.alloc O).drew.heap[Q]? = some (.cells #[.pointer (some ⟨E, 0, none⟩), .slice q0 N cL] 82)) := fun O => (HMk.out.below (HBA.out O)).blk
      have q7 : ∀ O, (wr.alloc O).cell? ⟨Q, 1, none⟩ = some (.slice q0 N cL) := fun O => blk_cell (HQB.out O) (i := 1) rfl
      have HXB : Hid (∀ O, (wr.alloc O).heap[w.heap.size]? = some (.cells #[.int .i64 a, .int .i64 b, .int .i64 t, .string p, .int .i64 c, .slice ps ns cs] 33)) := fun O => ((below_a wr O).block _ (Array.getElem?_eq_some_iff.1 HBXk.out).1).trans HBXk.out
      have p0 := blk_cell HBXk.out (i := 0) (u := .int .i64 a) rfl
      have p1 := blk_cell HBXk.out (i := 1) (u := .int .i64 b) rfl
      have p2 := blk_cell HBXk.out (i := 2) (u := .int .i64 t) rfl
      have p3 := blk_cell HBXk.out (i := 3) (u := .string p) rfl
      have p4 := blk_cell HBXk.out (i := 4) (u := .int .i64 c) rfl
      have p5 := blk_cell HBXk.out (i := 5) (u := .slice ps ns cs) rfl
      go_wp2_with fail
      go_region_law (
        (refine step_putO (by rfl) (.tmp 64) (.tmp 66) (by rfl) (.slice q0 N cL) N M ((a, b), t, p, c, s) ps ns cs (by rfl) wr.heap.size (by rfl) (by omega) (HOA.out _) (heap_alloc_new wr _) ?_; intro v9 w9 hr9 hg9 hl9; obtain ⟨p9, n9, c9, rfl, _⟩ := own_shape hr9; have hbk9 := (Xc.blk_grown (HQB.out _) hg9 (fun e => HMk.out.ne Q e rfl)); have q9 := blk_cell hbk9 (i := 1) (u := .slice q0 N cL) rfl; have fq9 := blk_free hbk9 (i := 1); have HR9 : Hid (w9.ownsRow 0 33 6 (.slice p9 n9 c9) (N + 1) (flatO (M ++ [(((a, b), t, p, c, s), .slice ps ns cs)]))) := hr9; have HC9 : Hid (Chg (fun g => (Value.slice q0 N cL).ownBlock = some g) wr w9) := ((Chg.ofBelow (HBA.out _) _).next (Chg.grown hg9 (F := fun g => (Value.slice q0 N cL).ownBlock = some g) (fun g e => e)) (fun g e => Or.inl e)); have HL9 : Hid (∀ g, (Value.slice p9 n9 c9).ownBlock = some g → (Value.slice q0 N cL).ownBlock = some g ∨ wr.heap.size ≤ g) := (fun g hg => by rcases hl9 with e | e; (exact Or.inl (e ▸ hg)); (rw [hg] at e; injection e with e; have := (HBA.out (.cells #[.int .i64 a, .int .i64 b, .int .i64 t, .string p, .int .i64 c, .slice ps ns cs] 33)).size; exact Or.inr (by omega))); clear hr9 hg9 hl9 hbk9))
      all_goals
        clear p0 p1 p2 p3 p4 p5 q7 b1 q9 fq9
        have HSET := rb_set HMk.out HC9.out (M2 := M ++ [(((a, b), t, p, c, s), .slice ps ns cs)]) (by rw [List.length_append]; have h9 := HR9.out; rw [HNL.out] at h9; exact h9) HL9.out (fun y hy => by
          rcases List.mem_append.1 hy with e | e
          · exact HMk.out.dts y e
          · rw [List.mem_singleton.1 e]; exact ⟨HDT.out.below HBw.out, HIN.out⟩) (fun y hy => by
          rcases List.mem_append.1 hy with e | e
          · exact HMk.out.size y e
          · rw [List.mem_singleton.1 e]; exact HPZ.out) (by rw [List.map_append]; exact HWT.out)
        generalize hw10 : w9.setCell ⟨Q, 1, none⟩ (.slice p9 n9 c9) = w10 at HSET ⊢
        have HM10 : Hid (RB B w10 Q E (.slice p9 n9 c9) S (M ++ [(((a, b), t, p, c, s), .slice ps ns cs)]) F) := HSET.1
        have HC10 : Hid (Chg H w w10) := (Chg.ofBelow HBw.out H).next HSET.2 (fun g e => Or.inl ((HHH.out g).2 (Or.inr e)))
        have HF10 : Hid (∀ g, (F g ∨ g = Q ∨ (Value.slice p9 n9 c9).ownBlock = some g) → H g ∨ w.heap.size ≤ g) := fun g hg => by
          rcases hg with e | e | e
          · exact Or.inl ((HHH.out g).2 (Or.inl e))
          · exact Or.inl ((HHH.out g).2 (Or.inr (Or.inl e)))
          · rcases HL9.out g e with e | e
            · exact Or.inl ((HHH.out g).2 (Or.inr (Or.inr e)))
            · exact Or.inr (Nat.le_trans HBw.out.size e)
        have HD0 : Hid (Ja.drain (M ++ [(((a, b), t, p, c, s), Value.slice ps ns cs)]).length ((0 : Nat) : Int) S ((M ++ [(((a, b), t, p, c, s), Value.slice ps ns cs)]).map (·.1)) = r) := by
          unfold Hid
          rw [List.length_append, List.map_append, HML.out, ← HNL.out]
          exact HR.out
        have HL0 : Hid (0 + (M ++ [(((a, b), t, p, c, s), Value.slice ps ns cs)]).length = N + 1) := by unfold Hid; rw [List.length_append, ← HNL.out]; simp
        clear hw10 HSET HR9 HC9 HL9
        go_wp2_with fail
        go_loopw [8] (fun vn wr => ∃ (n : Nat) (S' : Dq) (M' : List (Ox × Value)) (vL : Value) (F' : Nat → Prop), vn = .int .i64 n ∧ n ≤ N + 1 ∧ Hid (n + M'.length = N + 1) ∧ Hid (RB B wr Q E vL S' M' F') ∧ Hid (Ja.drain M'.length n S' (M'.map (·.1)) = r) ∧ Hid (Chg H w wr) ∧ Hid (∀ g, (F' g ∨ g = Q ∨ vL.ownBlock = some g) → H g ∨ w.heap.size ≤ g)) (fun vn _ => N + 1 - (intOf vn).toNat)
        case atStart => exact ⟨0, S, _, _, F, rfl, by omega, HL0, HM10, HD0, HC10, HF10⟩
        case round =>
          clear HM10 HD0 HC10 HF10 HL0 HBk HBw HMk HBXk HRW HBA HOA HQB HXB
          obtain ⟨n, S', M', vL, F', rfl, hn, HNM, HM', HRR, HCH, HFF⟩ := hrel
          obtain ⟨p', N', c', rfl, HN'⟩ := own_shape HM'.out.row
          have CN := rnext_any B Q E (.slice p' N' c') S' M' F' wr HM'.out
          go_wp2_with fail
          refine CN.mono ?_
          rintro e w1 ⟨⟨z, rfl, hz⟩, hb1⟩
          have HB1' : Hid (Below wr.heap.size wr w1) := hb1
          have HM1 : Hid (RB B w1 Q E (.slice p' N' c') S' M' F') := HM'.out.below hb1
          clear hb1 CN
          rcases hz with ⟨hnx, rfl⟩ | ⟨i, rfl, hiL, hnx, hrid⟩
          · have HRE : Hid ((((n : Nat) : Int), (0 : Int)) = r.1 ∧ S' = r.2.1 ∧ M'.map (·.1) = r.2.2) := by
              have h9 := HRR.out
              rw [drain_stop hnx] at h9
              rw [← h9]; exact ⟨rfl, rfl, rfl⟩
            clear hnx
            go_wp2_with fail
            go_ret2
            refine ⟨by rw [← HRE.out.1]; rfl, _, ⟨.slice p' N' c', M', F', by rw [← HRE.out.2.1]; exact HM1.out, HRE.out.2.2, fun g => Iff.rfl⟩, HCH.out.next (Chg.ofBelow HB1'.out (fun _ => False)) (fun g e => e.elim), HFF.out⟩
          · rw [List.length_map] at hiL
            have hiN' : i < N' := by rw [HN'.out]; exact hiL
            have hiNz : (i : Int) < N' := by omega
            have hiz0 : ¬ (i : Int) < 0 := by omega
            obtain ⟨g, rfl⟩ : ∃ g, p' = some ⟨g, 0, none⟩ := by
              rcases HM1.out.row.shape with ⟨e, e2⟩ | ⟨g9, c9, e, _⟩
              · injection e with _ e _; omega
              · injection e with e _ _; exact ⟨g9, e⟩
            have HCC : Hid (N' ≤ c' ∧ c' ≤ maxLen) := by
              rcases HM1.out.row.shape with ⟨e, e2⟩ | ⟨g9, c9, e, _, h1, h2⟩
              · cases e
              · injection e with _ e3 e4; rw [← HN'.out] at h1; rw [e4]; exact ⟨h1, h2⟩
            obtain ⟨y, hy⟩ : ∃ y, M'[i]? = some y := ⟨_, List.getElem?_eq_getElem hiL⟩
            have hyo : (M'.map (·.1)).getD i oz = y.1 := by rw [List.getD_eq_getElem?_getD, List.getElem?_map, hy]; rfl
            rw [hyo] at hnx hrid
            have hmem : y ∈ M' := List.mem_of_getElem? hy
            obtain ⟨⟨⟨xa, xb⟩, xt, xp, xc, xs⟩, yv⟩ := y
            obtain ⟨hdy, hiny⟩ := HM1.out.dts _ hmem
            have hpy := HM1.out.size _ hmem
            simp only at hdy hiny hpy hnx hrid
            obtain ⟨pv, nv, cv, rfl⟩ : ∃ pv nv cv, yv = .slice pv nv cv := by obtain ⟨_, _, e9, _⟩ := hdy; exact ⟨_, _, _, e9⟩
            have HNX : Hid (nextO S' (M'.map (·.1)) = some ((xa, xb), xt, xp, xc, xs)) := hnx
            have HRID : Hid ((M'.take i ++ M'.drop (i + 1)).map (·.1) = rid (xa, xb) (M'.map (·.1))) := by
              unfold Hid
              rw [hrid, List.map_append, List.map_take, List.map_drop]
            have HDY : Hid (DtsAt w1 (.slice pv nv cv) xs ∧ In (fun g => g < B) (.slice pv nv cv) ∧ xp.size ≤ maxLen) := ⟨hdy, hiny, hpy⟩
            have HSIX : Hid (w1.cell? ⟨g, i * 6, none⟩ = some (.int .i64 xa) ∧ w1.cell? ⟨g, i * 6 + 1, none⟩ = some (.int .i64 xb) ∧ w1.cell? ⟨g, i * 6 + 2, none⟩ = some (.int .i64 xt) ∧ w1.cell? ⟨g, i * 6 + 3, none⟩ = some (.string xp) ∧ w1.cell? ⟨g, i * 6 + 4, none⟩ = some (.int .i64 xc) ∧ w1.cell? ⟨g, i * 6 + 5, none⟩ = some (.slice pv nv cv)) := by
              have h6 := HM1.out.row.six hy
              have h0 := h6 0 _ rfl
              rw [Nat.add_zero] at h0
              exact ⟨h0, h6 1 _ rfl, h6 2 _ rfl, h6 3 _ rfl, h6 4 _ rfl, h6 5 _ rfl⟩
            obtain ⟨a0, a1, a2, a3, a4, a5⟩ := HSIX.out
            have b1 := blk_cell HM1.out.blk (i := 1) (u := .slice (some ⟨g, 0, none⟩) N' c') rfl
            have HW1 : Hid (Below w1.heap.size w1 (w1.alloc (.cells #[.int .i64 xa, .int .i64 xb, .int .i64 xt, .string xp, .int .i64 xc, .slice pv nv cv] 33))) := below_a w1 _
            have HBX1 : Hid ((w1.alloc (.cells #[.int .i64 xa, .int .i64 xb, .int .i64 xt, .string xp, .int .i64 xc, .slice pv nv cv] 33)).heap[w1.heap.size]? = some (.cells #[.int .i64 xa, .int .i64 xb, .int .i64 xt, .string xp, .int .i64 xc, .slice pv nv cv] 33)) := heap_alloc_new w1 _
            have hMi : M'.length = N' := HN'.out.symm
            have HLQ : Hid ((M'.take i).length = i ∧ (M'.drop (i + 1)).length = N' - (i + 1)) := ⟨by rw [List.length_take]; omega, by rw [List.length_drop]; omega⟩
            have HSH : Hid (∀ y ∈ M', ∃ p n c, y.2 = .slice p n c) := fun y hy => by obtain ⟨p9, c9, e9, _⟩ := (HM1.out.dts y hy).1; exact ⟨p9, _, c9, e9⟩
            clear hnx hrid hyo hdy hiny hpy hmem hy hiL
            have HRV : Hid (RowL B w1 (.slice (some ⟨g, 0, none⟩) N' c') M') := HM1.out.row
            go_upto_region 20 with fail
            generalize hW : w1.alloc (.cells #[.int .i64 xa, .int .i64 xb, .int .i64 xt, .string xp, .int .i64 xc, .slice pv nv cv] 33) = W at HW1 HBX1 ⊢
            generalize hbx : w1.heap.size = bx at HBX1 ⊢
            have HMW : Hid (RB B W Q E (.slice (some ⟨g, 0, none⟩) N' c') S' M' F') := HM1.out.below (hbx ▸ HW1.out)
            have HWW : Hid (Below wr.heap.size wr W) := bel HB1'.out (hbx ▸ HW1.out)
            have HDW : Hid (DtsAt W (.slice pv nv cv) xs) := HDY.out.1.below (hbx ▸ HW1.out)
            have b1' := blk_cell HMW.out.blk (i := 1) (u := .slice (some ⟨g, 0, none⟩) N' c') rfl
            have HCL := HMW.out.row.cells
            have HCT : Hid (∀ (j : Nat) (u : Value), (flatO (M'.take i))[j]? = some u → W.cell? ((⟨g, 0, none⟩ : Addr).add j) = some u) := fun j u hu => by rw [Addr.add_lit, Nat.zero_add]; exact HCL j u (flatO_take M' i j u hu)
            obtain ⟨ad, had⟩ : ∃ ad, (if c' = i + 1 then some (⟨g, 0, none⟩ : Addr) else some ⟨g, (i + 1) * 6, none⟩) = some ad := by
              by_cases e : c' = i + 1
              · exact ⟨⟨g, 0, none⟩, by rw [if_pos e]⟩
              · exact ⟨⟨g, (i + 1) * 6, none⟩, by rw [if_neg e]⟩
            have HCD : Hid (∀ W', Below W.heap.size W W' → ∀ (j : Nat) (u : Value), (flatO (M'.drop (i + 1)))[j]? = some u → W'.cell? (ad.add j) = some u) := fun W' hb j u hu => by
              by_cases e : c' = i + 1
              · have hz : M'.drop (i + 1) = [] := List.drop_of_length_le (by have := HCC.out.1; omega)
                rw [hz] at hu; simp [flatO] at hu
              · rw [if_neg e] at had
                injection had with had
                rw [← had, Addr.add_lit]
                exact cell_lift (HCL _ u (flatO_drop M' (i + 1) (by omega) j u hu)) hb
            have HQW : Hid (∀ W', Below W.heap.size W W' → W'.heap[Q]? = some (.cells #[.pointer (some ⟨E, 0, none⟩), .slice (some ⟨g, 0, none⟩) N' c'] 82)) := fun W' hb => (HMW.out.below hb).blk
            have hqz : (i : Int) ≤ c' := by have := HCC.out.1; omega
            have hqz2 : (i : Int) + 1 ≤ N' := by omega
            have hqz3 : (i : Int) + 1 ≤ c' := by have := HCC.out.1; omega
            have hcm9 : c' ≤ 9223372036854775807 := by have := HCC.out.2; unfold maxLen at this; omega
            have hN42 : N' ≤ 1000 := by have := HNM.out; omega
            clear HCL hW hbx a0 a1 a2 a3 a4 a5 b1 HW1
            go_wp2_with (first
              | (at_builtin; refine wpList_append_own_at _ rfl (.tmp 82) (.tmp 88) 22 rfl 0 33 i0 (.agg #[.int .i64 0, .int .i64 0, .int .i64 0, .string ⟨#[]⟩, .int .i64 0, .slice none 0 0]) 6 72 Tryz.underlying22 hi0 hz0 hz1 hz2 rfl (by decide) (.slice none 0 0) 0 [] rfl (World.ownsRow_nil _ _ _ _) ⟨g, 0, none⟩ i c' (flatO (M'.take i)) rfl (by rw [flatO_length, HLQ.out.1]) HCT.out (flatO_one _ fun y hy => HSH.out y (List.mem_of_mem_take hy)) (by unfold maxLen; omega) (by omega) (Nat.zero_le _) ?_; intro v9 w9 hown9 hgrow9 _ hat9; obtain ⟨p9, n9, c9, rfl, _⟩ := own_shape hown9; have HO9 : Hid (w9.ownsRow 0 33 6 (.slice p9 n9 c9) i (flatO (M'.take i))) := (by have h9 := hown9; rw [Nat.zero_add, List.nil_append] at h9; exact h9); have HB9 : Hid (Below W.heap.size W w9) := ⟨hgrow9.os, hgrow9.tape, hgrow9.output, hgrow9.size, fun j hj => hgrow9.block j hj (by intro e; cases e)⟩; have HAT9 : Hid (∀ g, (Value.slice p9 n9 c9).ownBlock = some g → W.heap.size ≤ g) := (by intro g hg; rcases hat9 with e9 | e9; (rw [hg] at e9; cases e9); (rw [hg] at e9; injection e9 with e9; omega)); have HCD9 := HCD.out w9 HB9.out; have r9 := blk_cell (HQW.out w9 HB9.out) (i := 1) (u := .slice (some ⟨g, 0, none⟩) N' c') rfl; clear hown9 hgrow9 hat9)
              | (at_builtin; refine wpList_append_own_at _ rfl (.tmp 91) (.tmp 98) 22 rfl 0 33 i0 (.agg #[.int .i64 0, .int .i64 0, .int .i64 0, .string ⟨#[]⟩, .int .i64 0, .slice none 0 0]) 6 72 Tryz.underlying22 hi0 hz0 hz1 hz2 rfl (by decide) (.slice p9 n9 c9) i (flatO (M'.take i)) rfl HO9.out ad (N' - (i + 1)) (c' - (i + 1)) (flatO (M'.drop (i + 1))) rfl (by rw [flatO_length, HLQ.out.2]) HCD9 (flatO_one _ fun y hy => HSH.out y (List.mem_of_mem_drop hy)) (by unfold maxLen; omega) (by omega) (Nat.zero_le _) ?_; intro v10 w10 hown10 hgrow10 _ hat10; obtain ⟨p10, n10, c10, rfl, _⟩ := own_shape hown10; have HO10 : Hid (w10.ownsRow 0 33 6 (.slice p10 n10 c10) (M'.take i ++ M'.drop (i + 1)).length (flatO (M'.take i ++ M'.drop (i + 1)))) := (by unfold Hid; rw [List.length_append, HLQ.out.1, HLQ.out.2, flatO_append]; exact hown10); have HB10 : Hid (Below W.heap.size W w10) := (HB9.out.grown hgrow10 HB9.out.size HAT9.out); have HAT10 : Hid (∀ g, (Value.slice p10 n10 c10).ownBlock = some g → W.heap.size ≤ g) := (by intro g hg; rcases hat10 with e9 | e9; (exact HAT9.out g (e9 ▸ hg)); (rw [hg] at e9; injection e9 with e9; have := HB9.out.size; omega)); have r10 := blk_cell (HQW.out w10 HB10.out) (i := 1) (u := .slice (some ⟨g, 0, none⟩) N' c') rfl; have f10 := blk_free (HQW.out w10 HB10.out) (i := 1); clear hown10 hgrow10 hat10))
            have HSET := rb_set HMW.out (Chg.ofBelow HB10.out _) HO10.out (fun g hg => Or.inr (HAT10.out g hg)) (fun y hy => by
              rcases List.mem_append.1 hy with e | e
              · exact HMW.out.dts y (List.mem_of_mem_take e)
              · exact HMW.out.dts y (List.mem_of_mem_drop e)) (fun y hy => by
              rcases List.mem_append.1 hy with e | e
              · exact HMW.out.size y (List.mem_of_mem_take e)
              · exact HMW.out.size y (List.mem_of_mem_drop e)) (by rw [HRID.out]; exact HMW.out.wt.rid _)
            have HBX11 : Hid ((w10.setCell ⟨Q, 1, none⟩ (.slice p10 n10 c10)).heap[bx]? = some (.cells #[.int .i64 xa, .int .i64 xb, .int .i64 xt, .string xp, .int .i64 xc, .slice pv nv cv] 33)) := by
              have h9 := (HB10.out.block _ (Array.getElem?_eq_some_iff.1 HBX1.out).1).trans HBX1.out
              unfold Hid
              rw [set_block _ _ _ _ (blk_ne h9 (HQW.out w10 HB10.out) (by decide))]
              exact h9
            have HDT11 : Hid (DtsAt (w10.setCell ⟨Q, 1, none⟩ (.slice p10 n10 c10)) (.slice pv nv cv) xs) := dots_stay (HDW.out) HDY.out.2.1 (HSET.2.stay fun g hg => ⟨Nat.lt_of_lt_of_le hg HMW.out.base, fun e => by have h9 : g < B := hg; rcases e with e | e; (have := HMW.out.offQ.2; omega); (have := (HMW.out.row.lt g e).1; omega)⟩)
            generalize hw11 : w10.setCell ⟨Q, 1, none⟩ (.slice p10 n10 c10) = w11 at HSET HBX11 HDT11 ⊢
            have HM11 : Hid (RB B w11 Q E (.slice p10 n10 c10) S' (M'.take i ++ M'.drop (i + 1)) F') := HSET.1
            have HC11 : Hid (Chg H w w11) := (HCH.out.next (Chg.ofBelow HWW.out (fun _ => False)) (fun g e => e.elim)).next HSET.2 (fun g e => HFF.out g (Or.inr e))
            have HP11 : Hid (∀ g, (Value.slice p10 n10 c10).ownBlock = some g → w.heap.size ≤ g) := fun g hg => Nat.le_trans (Nat.le_trans HCH.out.size HWW.out.size) (HAT10.out g hg)
            have HML2 : Hid ((M'.take i ++ M'.drop (i + 1)).length + 1 = M'.length) := by unfold Hid; rw [List.length_append, HLQ.out.1, HLQ.out.2]; omega
            clear hw11 HSET r9 r10 f10 b1' had HCD9
            have b0 := blk_cell HM11.out.blk (i := 0) (u := .pointer (some ⟨E, 0, none⟩)) rfl
            have x0 := blk_cell HBX11.out (i := 0) (u := .int .i64 xa) rfl
            have x1 := blk_cell HBX11.out (i := 1) (u := .int .i64 xb) rfl
            have x2 := blk_cell HBX11.out (i := 2) (u := .int .i64 xt) rfl
            have x3 := blk_cell HBX11.out (i := 3) (u := .string xp) rfl
            have x4 := blk_cell HBX11.out (i := 4) (u := .int .i64 xc) rfl
            have x5 := blk_cell HBX11.out (i := 5) (u := .slice pv nv cv) rfl
            have CA := Xf.apply_ref B E S' F' xa xb xt xp xc (.slice pv nv cv) xs w11.drew (HM11.out.doc.below (below_d w11)) (HDT11.out.below (below_d w11)) HDY.out.2.1 HDY.out.2.2
            obtain ⟨bn, hbn⟩ : ∃ bn, bn = isNew S' ((xa, xb), xt, xp, xc, xs) := ⟨_, rfl⟩
            obtain ⟨k, hk⟩ : ∃ k, k = apE S' ((xa, xb), xt, xp, xc, xs) := ⟨_, rfl⟩
            have CA2 : Hid (Calls Tryz.prog 11 #[.pointer (some ⟨E, 0, none⟩), .agg #[.int .i64 xa, .int .i64 xb, .int .i64 xt, .string xp, .int .i64 xc, .slice pv nv cv]] w11.drew fun e w' => ∃ v, e = .returned v ∧ (v = .tuple #[.bool bn, .int .i64 k] ∧ ∃ F'', RefAt B w' E (apS S' ((xa, xb), xt, xp, xc, xs)) F'' ∧ Chg F' w11.drew w' ∧ ∀ g, F'' g → F' g ∨ w11.drew.heap.size ≤ g)) := CA.mono (by rintro e w' ⟨h1, F'', h2, h3, h4⟩; exact ⟨_, h1, by rw [hk, hbn], F'', h2, h3, h4⟩)
            have HK : Hid (k = apE S' ((xa, xb), xt, xp, xc, xs)) := hk
            clear CA hbn hk
            go_wp2_with fail
            go_region_law (first
              | (refine step_call2 (R := fun v w' => v = .tuple #[.bool bn, .int .i64 k] ∧ ∃ F'', RefAt B w' E (apS S' ((xa, xb), xt, xp, xc, xs)) F'' ∧ Chg F' w11.drew w' ∧ ∀ g, F'' g → F' g ∨ w11.drew.heap.size ≤ g) (by rfl) 11 (.tmp 106) (.tmp 107) _ _ (by rfl) _ _ (by rfl) (by rfl) enter_rapply CA2.out ?_; rintro v3 w3 ⟨rfl, F3, hd3, hc3, hf3⟩; have HM3 : Hid (RB B w3 Q E (.slice p10 n10 c10) (apS S' ((xa, xb), xt, xp, xc, xs)) (M'.take i ++ M'.drop (i + 1)) F3) := rb_did (HM11.out.below (below_d w11)) hd3 hc3 hf3; have HC3 : Hid (Chg H w w3) := (HC11.out.next (Chg.ofBelow (below_d w11) (fun _ => False)) (fun g e => e.elim)).next hc3 (fun g e => HFF.out g (Or.inl e)); have HF3 : Hid (∀ g, (F3 g ∨ g = Q ∨ (Value.slice p10 n10 c10).ownBlock = some g) → H g ∨ w.heap.size ≤ g) := (fun g e => by rcases e with e | e | e; (rcases hf3 g e with e | e; (exact HFF.out g (Or.inl e)); (exact Or.inr (Nat.le_trans HC11.out.size e))); (exact HFF.out g (Or.inr (Or.inl e))); (exact Or.inr (HP11.out g e))); clear hd3 hc3 hf3))
            all_goals
              clear b0 x0 x1 x2 x3 x4 x5
              by_cases he : k = 0
              · subst he
                have HRE : Hid (Ja.drain (M'.take i ++ M'.drop (i + 1)).length ((n + 1 : Nat) : Int) (apS S' ((xa, xb), xt, xp, xc, xs)) ((M'.take i ++ M'.drop (i + 1)).map (·.1)) = r) := by
                  have h9 := HRR.out
                  rw [show M'.length = (M'.map (·.1)).length from (List.length_map ..).symm, drain_next HNX.out HK.out.symm] at h9
                  unfold Hid
                  rw [show (M'.take i ++ M'.drop (i + 1)).length = ((M'.take i ++ M'.drop (i + 1)).map (·.1)).length from (List.length_map ..).symm, HRID.out]
                  exact h9
                go_wp2_with fail
                go_roundw
                case rel => exact ⟨n + 1, _, _, _, F3, by go_num, by have := HNM.out; have := HML2.out; omega, by unfold Hid; have := HNM.out; have := HML2.out; omega, HM3, HRE, HC3, HF3⟩
                case measure => simp only [intOf]; have := HNM.out; have := HML2.out; omega
              · have heb : (k == 0) = false := by simpa using he
                have HRE : Hid (((0, k), apS S' ((xa, xb), xt, xp, xc, xs), (M'.take i ++ M'.drop (i + 1)).map (·.1)) = r) := by
                  have h9 := HRR.out
                  rw [show M'.length = (M'.map (·.1)).length from (List.length_map ..).symm, drain_err HNX.out (by rw [← HK.out]; exact he)] at h9
                  unfold Hid
                  rw [HRID.out, HK.out]
                  exact h9
                clear he
                go_wp2_with fail
                go_ret2
                refine ⟨by rw [← HRE.out]; rfl, _, ⟨.slice p10 n10 c10, M'.take i ++ M'.drop (i + 1), F3, by rw [← HRE.out]; exact HM3.out, by rw [← HRE.out], fun g => Iff.rfl⟩, HC3.out, HF3.out⟩
theorem rput_any (B Q E : Nat) (S : Dq) (L : List Ox) (H : Nat → Prop) (a b t : Int) (p : ByteArray) (c : Int) (vs : Value) (s : List Dt) (w : World) (h : RBAt B w Q E S L H) (hd : DtsAt w vs s) (hi : In (fun g => g < B) vs) (hp : p.size ≤ maxLen) :
    Calls Tryz.prog 41 #[.pointer (some ⟨Q, 0, none⟩), .agg #[.int .i64 a, .int .i64 b, .int .i64 t, .string p, .int .i64 c, vs]] w (RPut B w Q E H (putR S L ((a, b), t, p, c, s))) := by
  obtain ⟨ps, cs, e9, _⟩ := id hd
  subst e9
  by_cases ho : opE ((a, b), t, p, c, s) = 0
  · by_cases hk : b ≤ kn S a
    · exact rp_known B Q E S L H a b t p c ps _ cs s w h hd hi hp ho hk
    · cases hdi : dotIn L (a, b) with
      | some x => exact rp_waits B Q E S L H a b t p c ps _ cs s w h hd hi hp ho hk (by rw [hdi]; rfl)
      | none =>
        by_cases hl : 400 ≤ L.length
        · exact rp_full B Q E S L H a b t p c ps _ cs s w h hd hi hp ho hk hdi hl
        · exact rp_new B Q E S L H a b t p c ps _ cs s w h hd hi hp ho hk hdi hl
  · exact rp_wrong B Q E S L H a b t p c ps _ cs s w h hd hi hp _ rfl ho

end Jo
end Go.Proofs.YtnniggjeadlbgaaGreatDoor
