/- What Put does. -/
import Derived.Test.YtnniggjeadlbgaaGreatDoorJg
namespace Go.Proofs.YtnniggjeadlbgaaGreatDoor
namespace Jh
set_option linter.unusedVariables false
set_option linter.unusedSimpArgs false
open Go.ChangeShapes Go.WideShapes Go.ChangeAt Go.RowKit Cm Ka Kb Na Om Oa Oz Oc Og Oi Hm Ia Ic Idc Ie If Ig Ii Ij Ik Il Im Ja Jb Je Jf Jg
open La (bel bel_drew errV_zero errV_ne own_ge own_grow own_below Lies)

def PutPost (w : World) (B D : Nat) (E : Nat → Prop) (r : (Int × Int) × Dq × List Ox) (e : Ending) (w' : World) : Prop :=
  e = .returned (.tuple #[.int .i64 r.1.1, errV r.1.2]) ∧ ∃ E', BufAt w' B D r.2.1 r.2.2 E' ∧ Chg E w w' ∧ ∀ g, E' g → E g ∨ w.heap.size ≤ g
theorem PutPost.no {w w' : World} {B D : Nat} {S : Dq} {L : List Ox} {E : Nat → Prop} {r : (Int × Int) × Dq × List Ox} {v : Value} (h : BufAt w B D S L E) (k : Int) (hr : r = ((0, k), S, L)) (hv : errV k = v) (hb : Below w.heap.size w w') : PutPost w B D E r (.returned (.tuple #[.int .i64 0, v])) w' := by
  subst hr hv
  exact ⟨rfl, E, h.below hb, Chg.ofBelow hb E, fun g hg => Or.inl hg⟩
theorem update_run2 {w : World} {B : Nat} {M : List Wx} (h : MapW w B M) (a b t : Int) (p : ByteArray) (c : Int) (s : List Dt) (v : Value) (hn : dotIn (M.map (·.1)) (a, b) = none) :
    ∃ w', (Instr.mapUpdate 138 (.map (some B)) (.agg #[.int .i64 a, .int .i64 b]) (.agg #[.int .i64 a, .int .i64 b, .int .i64 t, .string p, .int .i64 c, v])).run Tryz.prog w = .ok () w' ∧ MapW w' B (M ++ [(((a, b), t, p, c, s), v)]) ∧ w.grownBy w' (some B) :=
  update_run h ((a, b), t, p, c, s) v (by
    have h9 := find_dot (a, b) M
    rw [hn] at h9
    cases hq : findW (a, b) M with
    | none => rfl
    | some r => rw [hq] at h9; cases h9)
set_option maxRecDepth 100000 in
set_option maxHeartbeats 2000000 in
theorem put_wrong (B D : Nat) (S : Dq) (L : List Ox) (E : Nat → Prop) (a b t : Int) (p : ByteArray) (c : Int) (q : Option Addr) (n1 c1 : Nat) (s : List Dt) (w : World) (h : BufAt w B D S L E) (hd : DtsAt w (.slice q n1 c1) s) (hp : p.size ≤ maxLen) (k : Int) (ho : opE ((a, b), t, p, c, s) = k) (h0 : k ≠ 0) :
    Calls Tryz.prog 38 #[.pointer (some ⟨B, 0, none⟩), .agg #[.int .i64 a, .int .i64 b, .int .i64 t, .string p, .int .i64 c, .slice q n1 c1]] w (PutPost w B D E (putR S L ((a, b), t, p, c, s))) := by
  have HAT : Hid (BufAt w B D S L E) := h
  have HB1 : Hid (Below w.heap.size w (w.alloc (.cells #[.int .i64 a, .int .i64 b, .int .i64 t, .string p, .int .i64 c, .slice q n1 c1] 33))) := (Below.refl _ w).alloc (Nat.le_refl _) _
  have HBX : Hid ((w.alloc (.cells #[.int .i64 a, .int .i64 b, .int .i64 t, .string p, .int .i64 c, .slice q n1 c1] 33)).heap[w.heap.size]? = some (.cells #[.int .i64 a, .int .i64 b, .int .i64 t, .string p, .int .i64 c, .slice q n1 c1] 33)) := heap_alloc_new w _
  have o0 := blk_cell HBX.out (i := 0) (u := .int .i64 a) rfl
  have o1 := blk_cell HBX.out (i := 1) (u := .int .i64 b) rfl
  have o2 := blk_cell HBX.out (i := 2) (u := .int .i64 t) rfl
  have o3 := blk_cell HBX.out (i := 3) (u := .string p) rfl
  have o4 := blk_cell HBX.out (i := 4) (u := .int .i64 c) rfl
  have o5 := blk_cell HBX.out (i := 5) (u := .slice q n1 c1) rfl
  have CC := Vc.check_says a b t p c (.slice q n1 c1) s _ (hd.below HB1.out) hp
  have HR : Hid (putR S L ((a, b), t, p, c, s) = ((0, k), S, L)) := by unfold Hid putR; rw [ho, if_pos h0]
  have HE : Hid (errV k = .iface 105 (.int .i64 k)) := errV_ne h0
  rw [ho, errV_ne h0] at CC
  clear h hd hp ho h0
  go_enter Tryz.func38, Tryz.ntmps38
  go_wp2_with fail
  refine CC.mono ?_
  rintro e w2 ⟨rfl, hb2⟩
  have HB2 : Hid (Below w.heap.size w w2) := bel HB1.out hb2
  clear hb2 CC
  go_wp2_with fail
  go_ret2
  exact PutPost.no HAT.out k HR.out HE.out HB2.out
set_option maxRecDepth 100000 in
set_option maxHeartbeats 2000000 in
theorem put_has (B D : Nat) (S : Dq) (L : List Ox) (E : Nat → Prop) (a b t : Int) (p : ByteArray) (c : Int) (q : Option Addr) (n1 c1 : Nat) (s : List Dt) (w : World) (h : BufAt w B D S L E) (hd : DtsAt w (.slice q n1 c1) s) (hp : p.size ≤ maxLen) (ho : opE ((a, b), t, p, c, s) = 0) (hh : hasW S L ((a, b), t, p, c, s) = true) :
    Calls Tryz.prog 38 #[.pointer (some ⟨B, 0, none⟩), .agg #[.int .i64 a, .int .i64 b, .int .i64 t, .string p, .int .i64 c, .slice q n1 c1]] w (PutPost w B D E (putR S L ((a, b), t, p, c, s))) := by
  have HAT : Hid (BufAt w B D S L E) := h
  have HB1 : Hid (Below w.heap.size w (w.alloc (.cells #[.int .i64 a, .int .i64 b, .int .i64 t, .string p, .int .i64 c, .slice q n1 c1] 33))) := (Below.refl _ w).alloc (Nat.le_refl _) _
  have HBX : Hid ((w.alloc (.cells #[.int .i64 a, .int .i64 b, .int .i64 t, .string p, .int .i64 c, .slice q n1 c1] 33)).heap[w.heap.size]? = some (.cells #[.int .i64 a, .int .i64 b, .int .i64 t, .string p, .int .i64 c, .slice q n1 c1] 33)) := heap_alloc_new w _
  have o0 := blk_cell HBX.out (i := 0) (u := .int .i64 a) rfl
  have o1 := blk_cell HBX.out (i := 1) (u := .int .i64 b) rfl
  have o2 := blk_cell HBX.out (i := 2) (u := .int .i64 t) rfl
  have o3 := blk_cell HBX.out (i := 3) (u := .string p) rfl
  have o4 := blk_cell HBX.out (i := 4) (u := .int .i64 c) rfl
  have o5 := blk_cell HBX.out (i := 5) (u := .slice q n1 c1) rfl
  have CC := Vc.check_says a b t p c (.slice q n1 c1) s _ (hd.below HB1.out) hp
  rw [ho, errV_zero] at CC
  have hdt : dotE a b = 0 := (opE_zero.1 ho).1
  obtain ⟨MB, M, F, G, m, hM, hE⟩ := h
  have HM : Hid (BufMem w B D MB S M F G) := m
  have HML : Hid (M.map (·.1) = L) := hM
  have HEE : Hid (∀ g, E g ↔ (F g ∨ G g ∨ g = B ∨ g = MB)) := hE
  have HDOT : Hid (dotE a b = 0) := hdt
  have HHAS : Hid (((dotIn L (a, b)).isSome || decide (b ≤ kn S a)) = true) := hh
  have HR : Hid (putR S L ((a, b), t, p, c, s) = ((0, 0), S, L)) := by unfold Hid putR; rw [if_neg (by simpa using ho), hh, if_pos rfl]
  clear hd hp ho hh hdt m hM hE
  go_enter Tryz.func38, Tryz.ntmps38
  go_wp2_with fail
  refine CC.mono ?_
  rintro e w2 ⟨rfl, hb2⟩
  have HB2 : Hid (Below w.heap.size w w2) := bel HB1.out hb2
  have HBX2 : Hid (w2.heap[w.heap.size]? = some (.cells #[.int .i64 a, .int .i64 b, .int .i64 t, .string p, .int .i64 c, .slice q n1 c1] 33)) := (hb2.block _ (Array.getElem?_eq_some_iff.1 HBX.out).1).trans HBX.out
  have CH := has_buf B D MB S M F G a b w2 (HM.out.below HB2.out) HDOT.out
  rw [HML.out, HHAS.out] at CH
  clear hb2 CC o0 o1 o2 o3 o4 o5
  have p0 := blk_cell HBX2.out (i := 0) (u := .int .i64 a) rfl
  have p1 := blk_cell HBX2.out (i := 1) (u := .int .i64 b) rfl
  go_wp2_with fail
  refine CH.mono ?_
  rintro e w3 ⟨rfl, hb3⟩
  have HB3 : Hid (Below w.heap.size w w3) := bel HB2.out hb3
  have HBX3 : Hid (w3.heap[w.heap.size]? = some (.cells #[.int .i64 a, .int .i64 b, .int .i64 t, .string p, .int .i64 c, .slice q n1 c1] 33)) := (hb3.block _ (Array.getElem?_eq_some_iff.1 HBX2.out).1).trans HBX2.out
  clear hb3 CH p0 p1
  go_wp2_with fail
  go_ret2
  exact PutPost.no HAT.out 0 HR.out rfl HB3.out
set_option maxRecDepth 100000 in
set_option maxHeartbeats 2000000 in
theorem put_full (B D : Nat) (S : Dq) (L : List Ox) (E : Nat → Prop) (a b t : Int) (p : ByteArray) (c : Int) (q : Option Addr) (n1 c1 : Nat) (s : List Dt) (w : World) (h : BufAt w B D S L E) (hd : DtsAt w (.slice q n1 c1) s) (hp : p.size ≤ maxLen) (ho : opE ((a, b), t, p, c, s) = 0) (hh : hasW S L ((a, b), t, p, c, s) = false) (hl : 400 ≤ L.length) :
    Calls Tryz.prog 38 #[.pointer (some ⟨B, 0, none⟩), .agg #[.int .i64 a, .int .i64 b, .int .i64 t, .string p, .int .i64 c, .slice q n1 c1]] w (PutPost w B D E (putR S L ((a, b), t, p, c, s))) := by
  have HAT : Hid (BufAt w B D S L E) := h
  have HB1 : Hid (Below w.heap.size w (w.alloc (.cells #[.int .i64 a, .int .i64 b, .int .i64 t, .string p, .int .i64 c, .slice q n1 c1] 33))) := (Below.refl _ w).alloc (Nat.le_refl _) _
  have HBX : Hid ((w.alloc (.cells #[.int .i64 a, .int .i64 b, .int .i64 t, .string p, .int .i64 c, .slice q n1 c1] 33)).heap[w.heap.size]? = some (.cells #[.int .i64 a, .int .i64 b, .int .i64 t, .string p, .int .i64 c, .slice q n1 c1] 33)) := heap_alloc_new w _
  have o0 := blk_cell HBX.out (i := 0) (u := .int .i64 a) rfl
  have o1 := blk_cell HBX.out (i := 1) (u := .int .i64 b) rfl
  have o2 := blk_cell HBX.out (i := 2) (u := .int .i64 t) rfl
  have o3 := blk_cell HBX.out (i := 3) (u := .string p) rfl
  have o4 := blk_cell HBX.out (i := 4) (u := .int .i64 c) rfl
  have o5 := blk_cell HBX.out (i := 5) (u := .slice q n1 c1) rfl
  have CC := Vc.check_says a b t p c (.slice q n1 c1) s _ (hd.below HB1.out) hp
  rw [ho, errV_zero] at CC
  have hdt : dotE a b = 0 := (opE_zero.1 ho).1
  obtain ⟨MB, M, F, G, m, hM, hE⟩ := h
  have HM : Hid (BufMem w B D MB S M F G) := m
  have HML : Hid (M.map (·.1) = L) := hM
  have HEE : Hid (∀ g, E g ↔ (F g ∨ G g ∨ g = B ∨ g = MB)) := hE
  have HDOT : Hid (dotE a b = 0) := hdt
  have HHAS : Hid (((dotIn L (a, b)).isSome || decide (b ≤ kn S a)) = false) := hh
  have HR : Hid (putR S L ((a, b), t, p, c, s) = ((0, 4), S, L)) := by unfold Hid putR; rw [if_neg (by simpa using ho), hh, if_neg (by decide), if_pos hl]
  obtain ⟨N, hN⟩ : ∃ N, N = M.length := ⟨_, rfl⟩
  have HN : Hid (M.length = N) := hN.symm
  have hN4 : (400 : Int) ≤ N := by rw [← hM, List.length_map] at hl; omega
  clear hd hp ho hh hdt m hM hE hl hN
  go_enter Tryz.func38, Tryz.ntmps38
  go_wp2_with fail
  refine CC.mono ?_
  rintro e w2 ⟨rfl, hb2⟩
  have HB2 : Hid (Below w.heap.size w w2) := bel HB1.out hb2
  have HBX2 : Hid (w2.heap[w.heap.size]? = some (.cells #[.int .i64 a, .int .i64 b, .int .i64 t, .string p, .int .i64 c, .slice q n1 c1] 33)) := (hb2.block _ (Array.getElem?_eq_some_iff.1 HBX.out).1).trans HBX.out
  have CH := has_buf B D MB S M F G a b w2 (HM.out.below HB2.out) HDOT.out
  rw [HML.out, HHAS.out] at CH
  clear hb2 CC o0 o1 o2 o3 o4 o5
  have p0 := blk_cell HBX2.out (i := 0) (u := .int .i64 a) rfl
  have p1 := blk_cell HBX2.out (i := 1) (u := .int .i64 b) rfl
  go_wp2_with fail
  refine CH.mono ?_
  rintro e w3 ⟨rfl, hb3⟩
  have HB3 : Hid (Below w.heap.size w w3) := bel HB2.out hb3
  have HBX3 : Hid (w3.heap[w.heap.size]? = some (.cells #[.int .i64 a, .int .i64 b, .int .i64 t, .string p, .int .i64 c, .slice q n1 c1] 33)) := (hb3.block _ (Array.getElem?_eq_some_iff.1 HBX2.out).1).trans HBX2.out
  clear hb3 CH p0 p1
  have b1 := blk_cell (HM.out.below HB3.out).blk (i := 1) (u := .map (some MB)) rfl
  have hlen := len_run (HM.out.below HB3.out).map 3
  rw [HN.out] at hlen
  go_wp2_with fail
  go_ret2
  exact PutPost.no HAT.out 4 HR.out rfl HB3.out
theorem enter_copy2 (args : Array Value) (W : World) : (callFunc 51 args).run Tryz.prog W = .ok (.enter 51 args) W := by
  first | kernel_rfl | simp [callFunc, go_sem, Tryz.func51]
set_option maxRecDepth 100000 in
set_option maxHeartbeats 4000000 in
theorem put_new (B D : Nat) (S : Dq) (L : List Ox) (E : Nat → Prop) (a b t : Int) (p : ByteArray) (c : Int) (q : Option Addr) (n1 c1 : Nat) (s : List Dt) (w : World) (h : BufAt w B D S L E) (hd : DtsAt w (.slice q n1 c1) s) (hp : p.size ≤ maxLen) (ho : opE ((a, b), t, p, c, s) = 0) (hh : hasW S L ((a, b), t, p, c, s) = false) (hl : ¬ 400 ≤ L.length) :
    Calls Tryz.prog 38 #[.pointer (some ⟨B, 0, none⟩), .agg #[.int .i64 a, .int .i64 b, .int .i64 t, .string p, .int .i64 c, .slice q n1 c1]] w (PutPost w B D E (putR S L ((a, b), t, p, c, s))) := by
  have HAT : Hid (BufAt w B D S L E) := h
  have HB1 : Hid (Below w.heap.size w (w.alloc (.cells #[.int .i64 a, .int .i64 b, .int .i64 t, .string p, .int .i64 c, .slice q n1 c1] 33))) := (Below.refl _ w).alloc (Nat.le_refl _) _
  have HBX : Hid ((w.alloc (.cells #[.int .i64 a, .int .i64 b, .int .i64 t, .string p, .int .i64 c, .slice q n1 c1] 33)).heap[w.heap.size]? = some (.cells #[.int .i64 a, .int .i64 b, .int .i64 t, .string p, .int .i64 c, .slice q n1 c1] 33)) := heap_alloc_new w _
  have o0 := blk_cell HBX.out (i := 0) (u := .int .i64 a) rfl
  have o1 := blk_cell HBX.out (i := 1) (u := .int .i64 b) rfl
  have o2 := blk_cell HBX.out (i := 2) (u := .int .i64 t) rfl
  have o3 := blk_cell HBX.out (i := 3) (u := .string p) rfl
  have o4 := blk_cell HBX.out (i := 4) (u := .int .i64 c) rfl
  have o5 := blk_cell HBX.out (i := 5) (u := .slice q n1 c1) rfl
  have CC := Vc.check_says a b t p c (.slice q n1 c1) s _ (hd.below HB1.out) hp
  rw [ho, errV_zero] at CC
  have hdt : dotE a b = 0 := (opE_zero.1 ho).1
  obtain ⟨MB, M, F, G, m, hM, hE⟩ := h
  have HM : Hid (BufMem w B D MB S M F G) := m
  have HML : Hid (M.map (·.1) = L) := hM
  have HEE : Hid (∀ g, E g ↔ (F g ∨ G g ∨ g = B ∨ g = MB)) := hE
  have HDOT : Hid (dotE a b = 0) := hdt
  have HHAS : Hid (((dotIn L (a, b)).isSome || decide (b ≤ kn S a)) = false) := hh
  have HDN : Hid (dotIn (M.map (·.1)) (a, b) = none) := by
    have h9 := HHAS.out
    simp only [Bool.or_eq_false_iff] at h9
    unfold Hid
    rw [hM]
    cases hq : dotIn L (a, b) with
    | none => rfl
    | some y => rw [hq] at h9; simp at h9
  have HWT : Hid (Wt (M.map (·.1) ++ [((a, b), t, p, c, s)])) := by
    unfold Hid
    have h9 := m.wt
    rw [hM] at h9 ⊢
    exact h9.push ho hh hl
  obtain ⟨r, hr⟩ : ∃ r, r = putR S L ((a, b), t, p, c, s) := ⟨_, rfl⟩
  have HR : Hid (∀ v : Value, Ja.drain (M ++ [(((a, b), t, p, c, s), v)]).length 0 S ((M ++ [(((a, b), t, p, c, s), v)]).map (·.1)) = r) := fun v => by
    rw [hr]
    unfold putR
    rw [if_neg (by simpa using ho), hh, if_neg (by decide), if_neg hl, List.map_append, hM, List.length_append, ← hM, List.length_map]
    rfl
  rw [← hr]
  have HDT : Hid (DtsAt w (.slice q n1 c1) s) := hd
  have HPZ : Hid (p.size ≤ maxLen) := hp
  have HS4 : Hid (s.length ≤ 1048576) := by have h9 : s.length ≤ 40 := (lawOf_zero.1 (opE_zero.1 ho).2.2.2).2.2.2.1; unfold Hid; omega
  obtain ⟨N, hN⟩ : ∃ N, N = M.length := ⟨_, rfl⟩
  have HN : Hid (M.length = N) := hN.symm
  have hN4 : ¬ (400 : Int) ≤ N := by rw [← hM, List.length_map] at hl; omega
  clear hd hp ho hh hdt m hM hE hl hN hr
  go_enter Tryz.func38, Tryz.ntmps38
  go_wp2_with fail
  refine CC.mono ?_
  rintro e w2 ⟨rfl, hb2⟩
  have HB2 : Hid (Below w.heap.size w w2) := bel HB1.out hb2
  have HBX2 : Hid (w2.heap[w.heap.size]? = some (.cells #[.int .i64 a, .int .i64 b, .int .i64 t, .string p, .int .i64 c, .slice q n1 c1] 33)) := (hb2.block _ (Array.getElem?_eq_some_iff.1 HBX.out).1).trans HBX.out
  have CH := has_buf B D MB S M F G a b w2 (HM.out.below HB2.out) HDOT.out
  rw [HML.out, HHAS.out] at CH
  clear hb2 CC o0 o1 o2 o3 o4 o5
  have p0 := blk_cell HBX2.out (i := 0) (u := .int .i64 a) rfl
  have p1 := blk_cell HBX2.out (i := 1) (u := .int .i64 b) rfl
  go_wp2_with fail
  refine CH.mono ?_
  rintro e w3 ⟨rfl, hb3⟩
  have HB3 : Hid (Below w.heap.size w w3) := bel HB2.out hb3
  have HBX3 : Hid (w3.heap[w.heap.size]? = some (.cells #[.int .i64 a, .int .i64 b, .int .i64 t, .string p, .int .i64 c, .slice q n1 c1] 33)) := (hb3.block _ (Array.getElem?_eq_some_iff.1 HBX2.out).1).trans HBX2.out
  clear hb3 CH p0 p1
  have HM3 : Hid (BufMem w3 B D MB S M F G) := HM.out.below HB3.out
  have b1 := blk_cell HM3.out.blk (i := 1) (u := .map (some MB)) rfl
  have HB1C : Hid (w3.cell? ⟨B, 1, none⟩ = some (.map (some MB))) := b1
  have hlen := len_run HM3.out.map 3
  rw [HN.out] at hlen
  go_wp2_with fail
  clear hlen
  have p0 := blk_cell HBX3.out (i := 0) (u := .int .i64 a) rfl
  have p1 := blk_cell HBX3.out (i := 1) (u := .int .i64 b) rfl
  have p2 := blk_cell HBX3.out (i := 2) (u := .int .i64 t) rfl
  have p3 := blk_cell HBX3.out (i := 3) (u := .string p) rfl
  have p4 := blk_cell HBX3.out (i := 4) (u := .int .i64 c) rfl
  have p5 := blk_cell HBX3.out (i := 5) (u := .slice q n1 c1) rfl
  go_region_law (first
    | (refine step_call1 (R := fun v w' => ∃ v', v = .agg #[.int .i64 a, .int .i64 b, .int .i64 t, .string p, .int .i64 c, v'] ∧ w'.ownsRow w3.drew.heap.size 30 2 v' s.length (flatD s) ∧ Below w3.drew.heap.size w3.drew w') (by rfl) 51 (.tmp 29) _ (by rfl) _ (by rfl) enter_copy2 ((copy_any a b t p c (.slice q n1 c1) s w3.drew (HDT.out.below (bel HB3.out (below_d w3))) HS4.out).mono (by rintro e w' ⟨v', h1, h2, h3⟩; exact ⟨_, h1, v', rfl, h2, h3⟩)) ?_; rintro v7 w7 ⟨vs7, rfl, hn7, hb7⟩; obtain ⟨p7, n7, c7, rfl, _⟩ := own_shape hn7; have HB7 : Hid (Below w3.heap.size w3 w7) := un_drew hb7; have HN7 : Hid (w7.ownsRow w3.heap.size 30 2 (.slice p7 n7 c7) s.length (flatD s)) := hn7; have HM7 : Hid (BufMem w7 B D MB S M F G) := HM3.out.below HB7.out; obtain ⟨w8, hup, hm8, hg8⟩ := update_run2 HM7.out.map a b t p c s (.slice p7 n7 c7) HDN.out; have HM8 : Hid (MapW w8 MB (M ++ [(((a, b), t, p, c, s), .slice p7 n7 c7)])) := hm8; have HG8 : Hid (w7.grownBy w8 (some MB)) := hg8; have bb1 := cell_lift HB1C.out HB7.out; have q0 := cell_lift (blk_cell HBX3.out (i := 0) (u := .int .i64 a) rfl) HB7.out; have q1 := cell_lift (blk_cell HBX3.out (i := 1) (u := .int .i64 b) rfl) HB7.out; clear hn7 hb7 hm8 hg8))
  all_goals
    clear p0 p1 p2 p3 p4 p5 bb1 q0 q1 hup b1
    have HV : Hid (∀ g, (Value.slice p7 n7 c7).ownBlock = some g → w3.heap.size ≤ g ∧ g < w7.heap.size) := fun g hg => HN7.out.lt g hg
    have HPM : Hid (BufMem w8 B D MB S (M ++ [(((a, b), t, p, c, s), .slice p7 n7 c7)]) F (fun g => G g ∨ (Value.slice p7 n7 c7).ownBlock = some g)) := by
      refine mem_push HM7.out HM8.out HG8.out (own_dts HN7.out) HPZ.out HWT.out (fun ad n9 c9 e9 _ => by rw [e9]; rfl) (fun g hg => ?_)
      obtain ⟨g1, g2⟩ := HV.out g hg
      have f1 := (Array.getElem?_eq_some_iff.1 HM3.out.blk).1
      have f2 := HM3.out.map.lt
      exact ⟨g2, fun e => by have := HM3.out.doc.lt g e; omega, by omega, by omega⟩
    have HC8 : Hid (Chg E w w8) := ((Chg.ofBelow (bel HB3.out HB7.out) E).next (Chg.grown (F := fun g => g = MB) HG8.out (fun g e => by injection e with e; exact e.symm)) (fun g e => Or.inl ((HEE.out g).2 (Or.inr (Or.inr (Or.inr e))))))
    have CX := all_any B D MB S (M ++ [(((a, b), t, p, c, s), .slice p7 n7 c7)]) F _ w8 HPM.out r (HR.out _)
    go_wp2_with fail
    refine CX.mono ?_
    rintro e w9 ⟨rfl, M9, F9, hm9, hM9, hc9, hf9⟩
    have HX9 : Hid (BufMem w9 B D MB r.2.1 M9 F9 (fun g => G g ∨ (Value.slice p7 n7 c7).ownBlock = some g) ∧ M9.map (·.1) = r.2.2 ∧ Chg (fun g => F g ∨ g = MB) w8 w9 ∧ ∀ g, F9 g → F g ∨ w8.heap.size ≤ g) := ⟨hm9, hM9, hc9, hf9⟩
    clear hm9 hM9 hc9 hf9 CX
    obtain ⟨r1, hr1⟩ : ∃ r1, r1 = r.1.1 := ⟨_, rfl⟩
    obtain ⟨r2, hr2⟩ : ∃ r2, r2 = errV r.1.2 := ⟨_, rfl⟩
    have HR1 : Hid (r1 = r.1.1 ∧ r2 = errV r.1.2) := ⟨hr1, hr2⟩
    rw [← hr1, ← hr2]
    clear hr1 hr2
    go_wp2_with fail
    go_ret2
    obtain ⟨hm9, hM9, hc9, hf9⟩ := HX9.out
    refine ⟨by rw [← HR1.out.1, ← HR1.out.2]; rfl, _, ⟨MB, M9, F9, _, hm9, hM9, fun g => Iff.rfl⟩, HC8.out.next hc9 (fun g e => Or.inl ((HEE.out g).2 (by rcases e with e | e; (exact Or.inl e); (exact Or.inr (Or.inr (Or.inr e)))))), fun g hg => ?_⟩
    have z3 := HB3.out.size
    rcases hg with e | (e | e) | e | e
    · rcases hf9 g e with e | e
      · exact Or.inl ((HEE.out g).2 (Or.inl e))
      · have := HC8.out.size; exact Or.inr (by omega)
    · exact Or.inl ((HEE.out g).2 (Or.inr (Or.inl e)))
    · have := (HV.out g e).1; exact Or.inr (by omega)
    · exact Or.inl ((HEE.out g).2 (Or.inr (Or.inr (Or.inl e))))
    · exact Or.inl ((HEE.out g).2 (Or.inr (Or.inr (Or.inr e))))
theorem put_any (B D : Nat) (S : Dq) (L : List Ox) (E : Nat → Prop) (a b t : Int) (p : ByteArray) (c : Int) (vs : Value) (s : List Dt) (w : World) (h : BufAt w B D S L E) (hd : DtsAt w vs s) (hp : p.size ≤ maxLen) :
    Calls Tryz.prog 38 #[.pointer (some ⟨B, 0, none⟩), .agg #[.int .i64 a, .int .i64 b, .int .i64 t, .string p, .int .i64 c, vs]] w (PutPost w B D E (putR S L ((a, b), t, p, c, s))) := by
  obtain ⟨q, c1, e9, _⟩ := id hd
  subst e9
  by_cases ho : opE ((a, b), t, p, c, s) = 0
  · cases hh : hasW S L ((a, b), t, p, c, s) with
    | true => exact put_has B D S L E a b t p c q _ c1 s w h hd hp ho hh
    | false =>
      by_cases hl : 400 ≤ L.length
      · exact put_full B D S L E a b t p c q _ c1 s w h hd hp ho hh hl
      · exact put_new B D S L E a b t p c q _ c1 s w h hd hp ho hh hl
  · exact put_wrong B D S L E a b t p c q _ c1 s w h hd hp _ rfl ho

end Jh
end Go.Proofs.YtnniggjeadlbgaaGreatDoor
