
import Derived.Test.YtnbnniapllkjlaaGreatDoorXp
import Derived.Test.YtnbnniapllkjlaaGreatDoorK4
import Derived.Test.YtnbnniapllkjlaaGreatDoorK1
import Derived.Test.YtnbnniapllkjlaaGreatDoorK2
import Derived.Test.YtnbnniapllkjlaaGreatDoorK3
namespace Go.Proofs.YtnbnniapllkjlaaGreatDoor
namespace Xq
set_option linter.unusedVariables false
open Go.ChangeShapes Go.WideShapes Go.ChangeAt Go.RowKit Cm Ka Kb Na Om Oa Oz Oc Og Oi Hm Ia Ib Ic Idc Ie Xp
open La (bel bel_drew errV_zero errV_ne own_ge own_grow own_below Lies)
open Lj (BookAt BookNew)
theorem infoR : (Tryz.prog.info? 33).map (fun i => (i.zero, i.size, i.bytes)) = some (some (.agg #[.int .i64 0, .int .i64 0, .int .i64 0, .string ⟨#[]⟩, .int .i64 0, .slice none 0 0]), 6, 72) := by kernel_rfl
theorem mid_same {W W' : World} {h : Nat} {a b t : Int} {p : ByteArray} {c : Int} {v : Value} (s : Six W h a b t p c v) (hs : W'.heap[h]? = W.heap[h]?) : Six W' h a b t p c v := by
  obtain ⟨h0, h1, h2, h3, h4, h5⟩ := s
  exact ⟨(cell_stay hs).trans h0, (cell_stay hs).trans h1, (cell_stay hs).trans h2, (cell_stay hs).trans h3, (cell_stay hs).trans h4, (cell_stay hs).trans h5⟩
theorem wr_eq {l : List Bm.Leaf} {p : ByteArray} (hb : Bm.bookE l = 0) (hp : Pm.chk p.toList = 0) (c : Int) : Bm.writeE l p c = Bm.wrE l p c ∧ Bm.writeL l p c = Me.wrL l p c := by
  have h0 : Bm.withE l p = 0 := by unfold Bm.withE; simp [hb, hp]
  have h1 : Bm.writeE l p c = Bm.wrE l p c := by unfold Bm.writeE; rw [if_neg (by simpa using h0)]
  exact ⟨h1, by unfold Bm.writeL Me.wrL; rw [h1]⟩
theorem st_eq {l : List Bm.Leaf} {p : ByteArray} (hb : Bm.bookE l = 0) (hp : Pm.chk p.toList = 0) : Bm.strikeE l p = Bm.putE l p ∧ Bm.strikeL l p = Me.stL l p := by
  have h0 : Bm.withE l p = 0 := by unfold Bm.withE; simp [hb, hp]
  have h1 : Bm.strikeE l p = Bm.putE l p := by unfold Bm.strikeE; rw [if_neg (by simpa using h0)]
  exact ⟨h1, by unfold Bm.strikeL Me.stL; rw [h1]⟩
theorem ref_new {B : Nat → Prop} {w w1 : World} (hB : ∀ g, B g → g < w.heap.size) (ho : w1.ownsRow w.heap.size 3 1 (.slice (some ⟨w.heap.size, 0, none⟩) 8 8) 8 (List.replicate 8 (.int .i64 0))) (hb : Below w.heap.size w w1) :
    ∃ F, RefAt B (w1.alloc (.cells #[.slice none 0 0, .slice none 0 0, .slice (some ⟨w.heap.size, 0, none⟩) 8 8, .slice none 0 0] 43)) w1.heap.size d0 F ∧ (∀ g, F g → w.heap.size ≤ g) ∧
      Below w.heap.size w (w1.alloc (.cells #[.slice none 0 0, .slice none 0 0, .slice (some ⟨w.heap.size, 0, none⟩) 8 8, .slice none 0 0] 43)) := by
  have hlt : w.heap.size < w1.heap.size := (own_lt ho w.heap.size rfl).1
  have hz := hb.size
  obtain ⟨_, e | ⟨g, cap, cur, e, _, hc, _, _, hsz, htk⟩⟩ := id ho
  · cases e.1
  · injection e with e1 e2 e3
    injection e1 with e1
    injection e1 with e1
    subst e3
    have hbb : Below w1.heap.size w1 (w1.alloc (.cells #[.slice none 0 0, .slice none 0 0, .slice (some ⟨w.heap.size, 0, none⟩) 8 8, .slice none 0 0] 43)) := (Below.refl _ w1).alloc (Nat.le_refl _) _
    have hlen : cur.toList.length = 8 := by simpa using hsz
    have hcur : cur.toList = List.replicate 8 (.int .i64 0) := by
      have h9 := htk
      rw [List.take_of_length_le (by rw [hlen]; simp)] at h9
      exact h9
    refine ⟨fun x => x = w1.heap.size ∨ x = w.heap.size, ⟨inv_zero, w.heap.size, .slice none 0 0, .slice none 0 0, .slice none 0 0, ⟨heap_alloc_new w1 _, ⟨cur, ?_, by rw [hcur]; rfl⟩, Lj.BookAt.nil _, In.nil _, MksAt.nil _, In.nil _, ⟨[], rfl, World.ownsRow_nil _ _ _ _, fun y hy => (by cases hy)⟩, fun x hx => ?_, fun x hx => ?_, fun x hx => by have := hB x hx; have := hbb.size; omega⟩⟩, fun x hx => ?_, bel hb hbb⟩
    · rw [hbb.block _ hlt, e1]; exact hc
    · rcases hx with hx | hx | hx
      · exact Or.inl hx
      · exact Or.inr hx
      · cases hx
    · have hs9 : (w1.alloc (.cells #[.slice none 0 0, .slice none 0 0, .slice (some ⟨w.heap.size, 0, none⟩) 8 8, .slice none 0 0] 43)).heap.size = w1.heap.size + 1 := by simp
      rcases hx with hx | hx <;> (rw [hs9]; exact ⟨fun e9 => by have := hB x e9; omega, by omega⟩)
    · rcases hx with hx | hx <;> omega
theorem made8 : (madeCells (Value.int .i64 0).cells (8 * 1)).toList = List.replicate 8 (.int .i64 0) := by kernel_rfl
set_option maxRecDepth 100000 in
set_option maxHeartbeats 1000000 in
theorem new_ref (B : Nat → Prop) (w : World) (hB : ∀ g, B g → g < w.heap.size) : Calls Tryz.prog 6 #[] w fun e w' => ∃ E F, e = .returned (.pointer (some ⟨E, 0, none⟩)) ∧ RefAt B w' E d0 F ∧ (∀ g, F g → w.heap.size ≤ g) ∧ Below w.heap.size w w' := by
  obtain ⟨i0, hi, hz0, hz1, hz2⟩ := info_parts Za.infoInt
  have HBB : Hid (∀ g, B g → g < w.heap.size) := hB
  clear hB
  go_enter Tryz.func6, Tryz.ntmps6
  go_wp2_with (at_make; refine wpList_make_full _ rfl (.const (.int .i64 8)) (.const (.int .i64 8)) 41 rfl w.heap.size 3 i0 (.int .i64 0) 1 Tryz.underlying41 hi hz0 hz1 .i64 .i64 8 8 8 rfl rfl rfl rfl (by rw [hz2]; omega) (by unfold maxLen; omega) (Nat.le_refl _) ?_; intro w1 hown hgrow; have HO : Hid (w1.ownsRow w.heap.size 3 1 (.slice (some ⟨w.heap.size, 0, none⟩) 8 8) 8 (List.replicate 8 (.int .i64 0))) := (made8 ▸ hown); have HB : Hid (Below w.heap.size w w1) := ⟨hgrow.os, hgrow.tape, hgrow.output, hgrow.size, fun k hk => hgrow.block k hk (by intro e; cases e)⟩; clear hown hgrow)
  go_ret
  obtain ⟨F, r1, r2, r3⟩ := ref_new HBB.out HO.out HB.out
  exact ⟨_, F, rfl, r1, r2, r3⟩
set_option maxRecDepth 100000 in
set_option maxHeartbeats 4000000 in
theorem ap_wrong (B : Nat → Prop) (E : Nat) (S : Dq) (F : Nat → Prop) (a b t : Int) (p : ByteArray) (c : Int) (vs : Value) (s : List Dt) (w : World) (h : RefAt B w E S F) (hd : DtsAt w vs s) (hi : In B vs) (hp : p.size ≤ maxLen) (k : Int) (ho : opE ((a, b), t, p, c, s) = k) (h0 : k ≠ 0) :
    Calls Tryz.prog 7 #[.pointer (some ⟨E, 0, none⟩), .agg #[.int .i64 a, .int .i64 b, .int .i64 t, .string p, .int .i64 c, vs]] w (RPost B w E S F ((a, b), t, p, c, s)) := by
  have HAT : Hid (RefAt B w E S F) := h
  obtain ⟨I, gk, vb, vm, vo, hm⟩ := h
  have HB1 : Hid (Below w.heap.size w (w.alloc (.cells #[.int .i64 a, .int .i64 b, .int .i64 t, .string p, .int .i64 c, vs] 33))) := (Below.refl _ w).alloc (Nat.le_refl _) _
  have H6 : Hid (Six (w.alloc (.cells #[.int .i64 a, .int .i64 b, .int .i64 t, .string p, .int .i64 c, vs] 33)) w.heap.size a b t p c vs) := six_new w a b t p c vs 33
  have COp : Hid (∀ W, Below w.heap.size w W → Calls Tryz.prog 18 #[.agg #[.int .i64 a, .int .i64 b, .int .i64 t, .string p, .int .i64 c, vs]] W fun e w' => e = .returned (.int .i64 (opE ((a, b), t, p, c, s))) ∧ Below W.heap.size W w') := fun W hb => Ob.op_ref a b t p c vs s W hp (hd.below hb)
  have HN : Hid (isNew S ((a, b), t, p, c, s) = false) := by unfold Hid isNew; rw [ho, decide_eq_false h0]; rfl
  have HE : Hid (apE S ((a, b), t, p, c, s) = k) := by unfold Hid apE; rw [ho, if_pos h0]
  rw [ho] at COp
  have h0b : (k == 0) = false := by simpa using h0
  have h0c : (k != 0) = true := by simpa using h0
  clear hd hi hp ho hm I
  go_enter Tryz.func7, Tryz.ntmps7
  obtain ⟨o0, o1, o2, o3, o4, o5⟩ := H6.out
  go_wp2_with fail
  refine (COp.out _ HB1.out).mono ?_
  rintro e w2 ⟨rfl, hb2⟩
  have HB2 : Hid (Below w.heap.size w w2) := bel HB1.out hb2
  clear hb2 COp
  go_wp2_with fail
  go_ret2
  exact RPost.no HAT.out HN.out HE.out HB2.out
set_option maxRecDepth 100000 in
set_option maxHeartbeats 4000000 in
theorem ap_known (B : Nat → Prop) (E : Nat) (S : Dq) (F : Nat → Prop) (a b t : Int) (p : ByteArray) (c : Int) (vs : Value) (s : List Dt) (w : World) (h : RefAt B w E S F) (hd : DtsAt w vs s) (hi : In B vs) (hp : p.size ≤ maxLen) (ho : opE ((a, b), t, p, c, s) = 0) (hkn : b ≤ kn S a) :
    Calls Tryz.prog 7 #[.pointer (some ⟨E, 0, none⟩), .agg #[.int .i64 a, .int .i64 b, .int .i64 t, .string p, .int .i64 c, vs]] w (RPost B w E S F ((a, b), t, p, c, s)) := by
  have HAT : Hid (RefAt B w E S F) := h
  obtain ⟨I, gk, vb, vm, vo, hm⟩ := h
  have HB1 : Hid (Below w.heap.size w (w.alloc (.cells #[.int .i64 a, .int .i64 b, .int .i64 t, .string p, .int .i64 c, vs] 33))) := (Below.refl _ w).alloc (Nat.le_refl _) _
  have H6 : Hid (Six (w.alloc (.cells #[.int .i64 a, .int .i64 b, .int .i64 t, .string p, .int .i64 c, vs] 33)) w.heap.size a b t p c vs) := six_new w a b t p c vs 33
  have COp : Hid (∀ W, Below w.heap.size w W → Calls Tryz.prog 18 #[.agg #[.int .i64 a, .int .i64 b, .int .i64 t, .string p, .int .i64 c, vs]] W fun e w' => e = .returned (.int .i64 (opE ((a, b), t, p, c, s))) ∧ Below W.heap.size W w') := fun W hb => Ob.op_ref a b t p c vs s W hp (hd.below hb)
  have HN : Hid (isNew S ((a, b), t, p, c, s) = false) := by
    unfold Hid
    cases h9 : isNew S ((a, b), t, p, c, s)
    · rfl
    · have h8 := isNew_iff.1 h9; obtain ⟨e1, e2, e3, e4⟩ := h8; simp only at e2; omega
  have HE : Hid (apE S ((a, b), t, p, c, s) = 0) := by unfold Hid apE; rw [if_neg (by simpa using ho)]; simp only; rw [if_pos hkn]
  rw [ho] at COp
  obtain ⟨d1, d2, d3, d4⟩ := dotE_iff.1 (opE_zero.1 ho).1
  simp only at d1 d2 d3 d4
  obtain ⟨q, hq⟩ : ∃ q, q = kn S a := ⟨_, rfl⟩
  have hk8 : a.toNat - 1 < 8 := by omega
  have hka : (a - 1).toNat = a.toNat - 1 := by omega
  have HKA : Hid ((a - 1).toNat = a.toNat - 1) := hka
  have HKN : Hid (∀ W, Below w.heap.size w W → W.cell? ⟨gk, a.toNat - 1, none⟩ = some (.int .i64 q)) := fun W hb => by
    obtain ⟨cur, k1, k2⟩ := (hm.below hb).kn
    refine blk_cell k1 ?_
    have hkl : a.toNat - 1 < S.known.length := by rw [I.klen]; exact hk8
    rw [← Array.getElem?_toList, k2, List.getElem?_map, List.getElem?_eq_getElem hkl, hq]
    unfold kn
    rw [hka, List.getD_eq_getElem?_getD, List.getElem?_eq_getElem hkl]; rfl
  obtain ⟨po, no, co, hvo⟩ : ∃ p n c, vo = .slice p n c := by obtain ⟨L, _, e, _⟩ := hm.ops; obtain ⟨p, n, c, e2, _⟩ := own_shape e; exact ⟨p, n, c, e2⟩
  obtain ⟨pb, nb, cb, hvb⟩ : ∃ p n c, vb = .slice p n c := by obtain ⟨p, c, e, _⟩ := hm.book; exact ⟨_, _, _, e⟩
  obtain ⟨pm, nm, cm, hvm⟩ : ∃ p n c, vm = .slice p n c := by obtain ⟨p, c, e, _⟩ := hm.marks; exact ⟨_, _, _, e⟩
  have HNO : Hid (no = S.ops.length) := by
    obtain ⟨L, _, e, _⟩ := hm.ops
    obtain ⟨p, n, c, e2, e3⟩ := own_shape e
    rw [hvo] at e2
    injection e2 with _ e2 _
    exact e2.trans e3.out
  have HMM : Hid (RefMem B w E gk vb vm vo S F) := hm
  subst hvo hvb hvm
  have HBL : Hid (∀ W, Below w.heap.size w W → W.heap[E]? = some (.cells #[.slice pb nb cb, .slice pm nm cm, .slice (some ⟨gk, 0, none⟩) 8 8, .slice po no co] 43)) := fun W hb => (hm.below hb).blk
  have hi0 : 0 ≤ a - 1 := by omega
  have hi1 : a - 1 < 8 := by omega
  rw [← hq] at hkn
  clear hd hi hp ho hm I hq hk8 hka
  go_enter Tryz.func7, Tryz.ntmps7
  obtain ⟨o0, o1, o2, o3, o4, o5⟩ := H6.out
  go_wp2_with fail
  refine (COp.out _ HB1.out).mono ?_
  rintro e w2 ⟨rfl, hb2⟩
  have HB2 : Hid (Below w.heap.size w w2) := bel HB1.out hb2
  obtain ⟨o0, o1, o2, o3, o4, o5⟩ := H6.out.below hb2
  have HS2 : Hid (Six w2 w.heap.size a b t p c vs) := H6.out.below hb2
  have x2 := blk_cell (HBL.out w2 HB2.out) (i := 2) (u := .slice (some ⟨gk, 0, none⟩) 8 8) rfl
  have xk := HKN.out w2 HB2.out
  clear hb2 COp H6 HB1
  go_wp2_with fail
  have hwr : IntKind.i64.wrap (a - 1) = a - 1 := wrap_in (by omega) (by omega)
  go_quiet (fail)
  generalize hwq : World.drewN _ _ = wq
  have HBq : Hid (Below w.heap.size w wq) := by rw [← hwq]; exact bel_drew HB2.out _
  have HSq : Hid (Six wq w.heap.size a b t p c vs) := by rw [← hwq]; exact HS2.out
  clear hwq o0 o1 o2 o3 o4 o5 x2 xk HS2
  obtain ⟨o0, o1, o2, o3, o4, o5⟩ := HSq.out
  go_wp2_with fail
  go_ret2
  exact RPost.no HAT.out HN.out HE.out HBq.out
set_option maxRecDepth 100000 in
set_option maxHeartbeats 4000000 in
theorem ap_state (B : Nat → Prop) (E : Nat) (S : Dq) (F : Nat → Prop) (a b t : Int) (p : ByteArray) (c : Int) (vs : Value) (s : List Dt) (w : World) (h : RefAt B w E S F) (hd : DtsAt w vs s) (hi : In B vs) (hp : p.size ≤ maxLen) (ho : opE ((a, b), t, p, c, s) = 0) (hkn : kn S a < b - 1) :
    Calls Tryz.prog 7 #[.pointer (some ⟨E, 0, none⟩), .agg #[.int .i64 a, .int .i64 b, .int .i64 t, .string p, .int .i64 c, vs]] w (RPost B w E S F ((a, b), t, p, c, s)) := by
  have HAT : Hid (RefAt B w E S F) := h
  obtain ⟨I, gk, vb, vm, vo, hm⟩ := h
  have HB1 : Hid (Below w.heap.size w (w.alloc (.cells #[.int .i64 a, .int .i64 b, .int .i64 t, .string p, .int .i64 c, vs] 33))) := (Below.refl _ w).alloc (Nat.le_refl _) _
  have H6 : Hid (Six (w.alloc (.cells #[.int .i64 a, .int .i64 b, .int .i64 t, .string p, .int .i64 c, vs] 33)) w.heap.size a b t p c vs) := six_new w a b t p c vs 33
  have COp : Hid (∀ W, Below w.heap.size w W → Calls Tryz.prog 18 #[.agg #[.int .i64 a, .int .i64 b, .int .i64 t, .string p, .int .i64 c, vs]] W fun e w' => e = .returned (.int .i64 (opE ((a, b), t, p, c, s))) ∧ Below W.heap.size W w') := fun W hb => Ob.op_ref a b t p c vs s W hp (hd.below hb)
  have HN : Hid (isNew S ((a, b), t, p, c, s) = false) := by
    unfold Hid
    cases h9 : isNew S ((a, b), t, p, c, s)
    · rfl
    · have h8 := isNew_iff.1 h9; obtain ⟨e1, e2, e3, e4⟩ := h8; simp only at e2; omega
  have HE : Hid (apE S ((a, b), t, p, c, s) = 6) := by unfold Hid apE; rw [if_neg (by simpa using ho)]; simp only; rw [if_neg (by omega), if_pos hkn]
  rw [ho] at COp
  obtain ⟨d1, d2, d3, d4⟩ := dotE_iff.1 (opE_zero.1 ho).1
  simp only at d1 d2 d3 d4
  obtain ⟨q, hq⟩ : ∃ q, q = kn S a := ⟨_, rfl⟩
  have hk8 : a.toNat - 1 < 8 := by omega
  have hka : (a - 1).toNat = a.toNat - 1 := by omega
  have HKA : Hid ((a - 1).toNat = a.toNat - 1) := hka
  have HKN : Hid (∀ W, Below w.heap.size w W → W.cell? ⟨gk, a.toNat - 1, none⟩ = some (.int .i64 q)) := fun W hb => by
    obtain ⟨cur, k1, k2⟩ := (hm.below hb).kn
    refine blk_cell k1 ?_
    have hkl : a.toNat - 1 < S.known.length := by rw [I.klen]; exact hk8
    rw [← Array.getElem?_toList, k2, List.getElem?_map, List.getElem?_eq_getElem hkl, hq]
    unfold kn
    rw [hka, List.getD_eq_getElem?_getD, List.getElem?_eq_getElem hkl]; rfl
  obtain ⟨po, no, co, hvo⟩ : ∃ p n c, vo = .slice p n c := by obtain ⟨L, _, e, _⟩ := hm.ops; obtain ⟨p, n, c, e2, _⟩ := own_shape e; exact ⟨p, n, c, e2⟩
  obtain ⟨pb, nb, cb, hvb⟩ : ∃ p n c, vb = .slice p n c := by obtain ⟨p, c, e, _⟩ := hm.book; exact ⟨_, _, _, e⟩
  obtain ⟨pm, nm, cm, hvm⟩ : ∃ p n c, vm = .slice p n c := by obtain ⟨p, c, e, _⟩ := hm.marks; exact ⟨_, _, _, e⟩
  have HNO : Hid (no = S.ops.length) := by
    obtain ⟨L, _, e, _⟩ := hm.ops
    obtain ⟨p, n, c, e2, e3⟩ := own_shape e
    rw [hvo] at e2
    injection e2 with _ e2 _
    exact e2.trans e3.out
  have HMM : Hid (RefMem B w E gk vb vm vo S F) := hm
  subst hvo hvb hvm
  have HBL : Hid (∀ W, Below w.heap.size w W → W.heap[E]? = some (.cells #[.slice pb nb cb, .slice pm nm cm, .slice (some ⟨gk, 0, none⟩) 8 8, .slice po no co] 43)) := fun W hb => (hm.below hb).blk
  have hi0 : 0 ≤ a - 1 := by omega
  have hi1 : a - 1 < 8 := by omega
  rw [← hq] at hkn
  have hkn2 : ¬ b ≤ q := by omega
  clear hd hi hp ho hm I hq hk8 hka
  go_enter Tryz.func7, Tryz.ntmps7
  obtain ⟨o0, o1, o2, o3, o4, o5⟩ := H6.out
  go_wp2_with fail
  refine (COp.out _ HB1.out).mono ?_
  rintro e w2 ⟨rfl, hb2⟩
  have HB2 : Hid (Below w.heap.size w w2) := bel HB1.out hb2
  obtain ⟨o0, o1, o2, o3, o4, o5⟩ := H6.out.below hb2
  have HS2 : Hid (Six w2 w.heap.size a b t p c vs) := H6.out.below hb2
  have x2 := blk_cell (HBL.out w2 HB2.out) (i := 2) (u := .slice (some ⟨gk, 0, none⟩) 8 8) rfl
  have xk := HKN.out w2 HB2.out
  clear hb2 COp H6 HB1
  go_wp2_with fail
  have hwr : IntKind.i64.wrap (a - 1) = a - 1 := wrap_in (by omega) (by omega)
  go_quiet (fail)
  generalize hwq : World.drewN _ _ = wq
  have HBq : Hid (Below w.heap.size w wq) := by rw [← hwq]; exact bel_drew HB2.out _
  have HSq : Hid (Six wq w.heap.size a b t p c vs) := by rw [← hwq]; exact HS2.out
  clear hwq o0 o1 o2 o3 o4 o5 x2 xk HS2
  obtain ⟨o0, o1, o2, o3, o4, o5⟩ := HSq.out
  go_wp2_with fail
  go_ret2
  exact RPost.no HAT.out HN.out HE.out HBq.out
set_option maxRecDepth 100000 in
set_option maxHeartbeats 4000000 in
theorem ap_full (B : Nat → Prop) (E : Nat) (S : Dq) (F : Nat → Prop) (a b t : Int) (p : ByteArray) (c : Int) (vs : Value) (s : List Dt) (w : World) (h : RefAt B w E S F) (hd : DtsAt w vs s) (hi : In B vs) (hp : p.size ≤ maxLen) (ho : opE ((a, b), t, p, c, s) = 0) (hkn : kn S a + 1 = b) (hf : 400 ≤ S.ops.length) :
    Calls Tryz.prog 7 #[.pointer (some ⟨E, 0, none⟩), .agg #[.int .i64 a, .int .i64 b, .int .i64 t, .string p, .int .i64 c, vs]] w (RPost B w E S F ((a, b), t, p, c, s)) := by
  have HAT : Hid (RefAt B w E S F) := h
  obtain ⟨I, gk, vb, vm, vo, hm⟩ := h
  have HB1 : Hid (Below w.heap.size w (w.alloc (.cells #[.int .i64 a, .int .i64 b, .int .i64 t, .string p, .int .i64 c, vs] 33))) := (Below.refl _ w).alloc (Nat.le_refl _) _
  have H6 : Hid (Six (w.alloc (.cells #[.int .i64 a, .int .i64 b, .int .i64 t, .string p, .int .i64 c, vs] 33)) w.heap.size a b t p c vs) := six_new w a b t p c vs 33
  have COp : Hid (∀ W, Below w.heap.size w W → Calls Tryz.prog 18 #[.agg #[.int .i64 a, .int .i64 b, .int .i64 t, .string p, .int .i64 c, vs]] W fun e w' => e = .returned (.int .i64 (opE ((a, b), t, p, c, s))) ∧ Below W.heap.size W w') := fun W hb => Ob.op_ref a b t p c vs s W hp (hd.below hb)
  have HN : Hid (isNew S ((a, b), t, p, c, s) = false) := by
    unfold Hid
    cases h9 : isNew S ((a, b), t, p, c, s)
    · rfl
    · have h8 := isNew_iff.1 h9; obtain ⟨e1, e2, e3, e4⟩ := h8; simp only at e2; omega
  have HE : Hid (apE S ((a, b), t, p, c, s) = 4) := by unfold Hid apE; rw [if_neg (by simpa using ho)]; simp only; rw [if_neg (by omega), if_neg (by omega), if_pos hf]
  rw [ho] at COp
  obtain ⟨d1, d2, d3, d4⟩ := dotE_iff.1 (opE_zero.1 ho).1
  simp only at d1 d2 d3 d4
  obtain ⟨q, hq⟩ : ∃ q, q = kn S a := ⟨_, rfl⟩
  have hk8 : a.toNat - 1 < 8 := by omega
  have hka : (a - 1).toNat = a.toNat - 1 := by omega
  have HKA : Hid ((a - 1).toNat = a.toNat - 1) := hka
  have HKN : Hid (∀ W, Below w.heap.size w W → W.cell? ⟨gk, a.toNat - 1, none⟩ = some (.int .i64 q)) := fun W hb => by
    obtain ⟨cur, k1, k2⟩ := (hm.below hb).kn
    refine blk_cell k1 ?_
    have hkl : a.toNat - 1 < S.known.length := by rw [I.klen]; exact hk8
    rw [← Array.getElem?_toList, k2, List.getElem?_map, List.getElem?_eq_getElem hkl, hq]
    unfold kn
    rw [hka, List.getD_eq_getElem?_getD, List.getElem?_eq_getElem hkl]; rfl
  obtain ⟨po, no, co, hvo⟩ : ∃ p n c, vo = .slice p n c := by obtain ⟨L, _, e, _⟩ := hm.ops; obtain ⟨p, n, c, e2, _⟩ := own_shape e; exact ⟨p, n, c, e2⟩
  obtain ⟨pb, nb, cb, hvb⟩ : ∃ p n c, vb = .slice p n c := by obtain ⟨p, c, e, _⟩ := hm.book; exact ⟨_, _, _, e⟩
  obtain ⟨pm, nm, cm, hvm⟩ : ∃ p n c, vm = .slice p n c := by obtain ⟨p, c, e, _⟩ := hm.marks; exact ⟨_, _, _, e⟩
  have HNO : Hid (no = S.ops.length) := by
    obtain ⟨L, _, e, _⟩ := hm.ops
    obtain ⟨p, n, c, e2, e3⟩ := own_shape e
    rw [hvo] at e2
    injection e2 with _ e2 _
    exact e2.trans e3.out
  have HMM : Hid (RefMem B w E gk vb vm vo S F) := hm
  subst hvo hvb hvm
  have HBL : Hid (∀ W, Below w.heap.size w W → W.heap[E]? = some (.cells #[.slice pb nb cb, .slice pm nm cm, .slice (some ⟨gk, 0, none⟩) 8 8, .slice po no co] 43)) := fun W hb => (hm.below hb).blk
  have hi0 : 0 ≤ a - 1 := by omega
  have hi1 : a - 1 < 8 := by omega
  rw [← hq] at hkn
  have hkn2 : ¬ b ≤ q := by omega
  have hkn3 : ¬ q < b - 1 := by omega
  have hfz : (400 : Int) ≤ no := by have := HNO.out; omega
  clear hd hi hp ho hm I hq hk8 hka hf
  go_enter Tryz.func7, Tryz.ntmps7
  obtain ⟨o0, o1, o2, o3, o4, o5⟩ := H6.out
  go_wp2_with fail
  refine (COp.out _ HB1.out).mono ?_
  rintro e w2 ⟨rfl, hb2⟩
  have HB2 : Hid (Below w.heap.size w w2) := bel HB1.out hb2
  obtain ⟨o0, o1, o2, o3, o4, o5⟩ := H6.out.below hb2
  have HS2 : Hid (Six w2 w.heap.size a b t p c vs) := H6.out.below hb2
  have x2 := blk_cell (HBL.out w2 HB2.out) (i := 2) (u := .slice (some ⟨gk, 0, none⟩) 8 8) rfl
  have xk := HKN.out w2 HB2.out
  clear hb2 COp H6 HB1
  go_wp2_with fail
  have hwr : IntKind.i64.wrap (a - 1) = a - 1 := wrap_in (by omega) (by omega)
  go_quiet (fail)
  generalize hwq : World.drewN _ _ = wq
  have HBq : Hid (Below w.heap.size w wq) := by rw [← hwq]; exact bel_drew HB2.out _
  have HSq : Hid (Six wq w.heap.size a b t p c vs) := by rw [← hwq]; exact HS2.out
  clear hwq o0 o1 o2 o3 o4 o5 x2 xk HS2
  obtain ⟨o0, o1, o2, o3, o4, o5⟩ := HSq.out
  have x3 := blk_cell (HBL.out wq HBq.out) (i := 3) (u := .slice po no co) rfl
  go_wp2_with fail
  go_ret2
  exact RPost.no HAT.out HN.out HE.out HBq.out
end Xq
end Go.Proofs.YtnbnniapllkjlaaGreatDoor
