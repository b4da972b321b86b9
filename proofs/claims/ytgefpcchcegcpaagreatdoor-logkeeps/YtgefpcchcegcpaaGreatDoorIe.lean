/- What a doc's done answers: book and marks as an op makes them. -/
import Derived.Test.YtgefpcchcegcpaaGreatDoorId
namespace Go.Proofs.YtgefpcchcegcpaaGreatDoor
namespace Ie
set_option linter.unusedVariables false
open Go.ChangeShapes Go.WideShapes Go.ChangeAt Go.RowKit Cm Ka Kb Na Om Oa Oz Oc Og Oi Hm Ia Ib Ic Idc
open La (bel bel_drew errV_zero errV_ne own_ge own_grow own_below Lies)
open Lj (BookAt BookNew)

theorem set_heap {w : World} {g i : Nat} {v : Value} {cs : Array Value} {t : TypeId} {f : Nat × Nat} (h : w.heap[g]? = some (.cells cs t f)) : (w.setCell ⟨g, i, none⟩ v).heap[g]? = some (.cells (cs.setIfInBounds i v) t f) := by
  simp [World.setCell, Array.getElem?_modify, h]
theorem set_size (w : World) (p : Addr) (v : Value) : (w.setCell p v).heap.size = w.heap.size := by simp [World.setCell]
theorem small_book {l : List Bm.Leaf} (h : Bm.bookE l = 0) : ∀ x ∈ l, x.1.size ≤ maxLen := by
  intro x hx
  have h2 := (Bm.bookE_zero.1 h).2.1 x hx
  have h3 : Pm.chk x.1.toList = 0 := by
    unfold Bm.leafE at h2
    split at h2
    · next h1 => exact absurd h2 h1
    · next h1 => simpa using h1
  have h4 := (Bm.chk_pos h3).2
  unfold maxLen; rw [Kb.len_eq] at h4; omega
theorem small_place {p : ByteArray} (h : Pm.chk p.toList = 0) : p.size ≤ maxLen := by
  have h4 := (Bm.chk_pos h).2
  unfold maxLen; rw [Kb.len_eq] at h4; omega
/- new books and marks lie in new blocks that are there -/
theorem book_in {B : Nat} {w : World} {v : Value} {l : List Bm.Leaf} (h : BookNew B w v l) : In (fun g => B ≤ g ∧ g < w.heap.size) v := by
  intro a n c e hn
  refine ⟨h.2 a n c e hn, ?_⟩
  obtain ⟨p, c2, hv, hl, _⟩ := h.1
  rw [e] at hv
  injection hv with e1 e2 e3
  rcases hl with h0 | ⟨b, o, hp, hc⟩
  · rw [h0] at e2; simp at e2; omega
  · rw [hp] at e1
    injection e1 with e1
    rw [e1]
    exact (hc 0 (by omega)).lt
theorem marks_in {B : Nat} {w : World} {v : Value} {l : List Mk} (h : MksNew B w v l) : In (fun g => B ≤ g ∧ g < w.heap.size) v := by
  intro a n c e hn
  refine ⟨h.2 a n c e hn, ?_⟩
  obtain ⟨p, c2, hv, hl, _⟩ := h.1
  rw [e] at hv
  injection hv with e1 e2 e3
  rcases hl with h0 | ⟨b, o, hp, hc⟩
  · rw [h0] at e2; simp at e2; omega
  · rw [hp] at e1
    injection e1 with e1
    rw [e1]
    exact (hc 0 (by omega)).lt

def News (G : Nat → Prop) (w w' : World) (g : Nat) : Prop := G g ∨ (w.heap.size ≤ g ∧ g < w'.heap.size)
theorem do_end {w w7 : World} {m : Mem} {S : Dq} {G : Nat → Prop} {vb vm : Value} {B : List Bm.Leaf} {M : List Mk} (h : DocMem w m S G) (hb : Below w.heap.size w w7) (h1 : BookAt w7 vb B) (i1 : In (News G w w7) vb) (h2 : MksAt w7 vm M) (i2 : In (News G w w7) vm) :
    DocMem ((w7.setCell ⟨m.D, 0, none⟩ vb).setCell ⟨m.D, 1, none⟩ vm) { m with vb := vb, vm := vm } ⟨B, M, S.known, S.ops⟩ (News G w w7) ∧ Chg (fun g => g = m.D) w ((w7.setCell ⟨m.D, 0, none⟩ vb).setCell ⟨m.D, 1, none⟩ vm) := by
  have h7 := h.below hb
  have hlt : ∀ g, News G w w7 g → g < w7.heap.size := fun g hg => by
    rcases hg with e | e
    · exact h7.lt g e
    · exact e.2
  have hoff : ∀ g, News G w w7 g → ¬ Wr m g := fun g hg => by
    rcases hg with e | e
    · exact h.off g e
    · intro e9; have := h.wr_lt g e9; omega
  have hN := h7.more (H := News G w w7) (fun g hg => Or.inl hg) hlt hoff
  have oth : ∀ g, g ≠ m.D → ((w7.setCell ⟨m.D, 0, none⟩ vb).setCell ⟨m.D, 1, none⟩ vm).heap[g]? = w7.heap[g]? := fun g hg => by rw [set_block _ _ _ _ hg, set_block _ _ _ _ hg]
  have hs : Stay (News G w w7) w7 ((w7.setCell ⟨m.D, 0, none⟩ vb).setCell ⟨m.D, 1, none⟩ vm) := fun g hg => oth g (fun e => hoff g hg (Or.inl e))
  have hne : ∀ g cur t, w7.heap[g]? = some (.cells cur t (0, 0)) → t ≠ 74 → g ≠ m.D := fun g cur t hg ht e => by
    rw [e, h7.blk] at hg
    injection hg with hg
    injection hg with _ hg _
    exact ht hg.symm
  obtain ⟨L, o1, o2, o3⟩ := hN.ops
  refine ⟨⟨?_, book_stay h1 i1 hs, i1, marks_stay h2 i2 hs, i2, known_stay hN.known hN.knownG hs, hN.knownG, ⟨L, o1, own_stay o2 (fun g hg => ?_), fun y hy => ⟨dots_stay (o3 y hy).1 (o3 y hy).2 hs, (o3 y hy).2⟩⟩, MapAt.stay hN.map (oth _ ?_), fun x hx => own_stay (hN.rows x hx) (fun g hg => ?_), hN.apart, ?_, hN.off⟩, ?_⟩
  · rw [set_heap (set_heap h7.blk)]; rfl
  · obtain ⟨_, cur, hc⟩ := own_lt o2 g hg
    exact oth g (hne g cur _ hc (by decide))
  · intro e
    obtain ⟨es, clock, hb9, _⟩ := h7.map
    rw [e, h7.blk] at hb9; cases hb9
  · obtain ⟨_, cur, hc⟩ := own_lt (hN.rows x hx) g hg
    exact oth g (hne g cur _ hc (by decide))
  · intro g hg; rw [set_size, set_size]; exact hlt g hg
  · exact ((Chg.ofBelow hb (fun g => g = m.D)).setCell (p := ⟨m.D, 0, none⟩) rfl _).setCell (p := ⟨m.D, 1, none⟩) rfl _
/- what done leaves -/
def DoPost (w : World) (m : Mem) (S : Dq) (G : Nat → Prop) (o : Ox) (e : Ending) (w' : World) : Prop :=
  ∃ vb vm, e = .returned (.tuple #[vb, vm, errV (doE S o)]) ∧ Below w.heap.size w w' ∧ (doE S o = 0 → (BookAt w' vb (doB S o) ∧ In (News G w w') vb) ∧ MksAt w' vm (doM S o) ∧ In (News G w w') vm)
theorem DoPost.no {w w' : World} {m : Mem} {S : Dq} {G : Nat → Prop} {o : Ox} {k : Int} {vb vm : Value} (hk : doE S o = k) (h0 : k ≠ 0) (hb : Below w.heap.size w w') : DoPost w m S G o (.returned (.tuple #[vb, vm, .iface 64 (.int .i64 k)])) w' :=
  ⟨vb, vm, by rw [hk, errV_ne h0], hb, fun h => absurd (hk.symm.trans h) h0⟩
theorem DoPost.yes {w w7 : World} {m : Mem} {S : Dq} {G : Nat → Prop} {o : Ox} {vb vm : Value} (hk : doE S o = 0) (hb : Below w.heap.size w w7) (h1 : BookAt w7 vb (doB S o)) (i1 : In (News G w w7) vb) (h2 : MksAt w7 vm (doM S o)) (i2 : In (News G w w7) vm) :
    DoPost w m S G o (.returned (.tuple #[vb, vm, .nilIface])) w7 := ⟨vb, vm, by rw [hk]; rfl, hb, fun _ => ⟨⟨h1, i1⟩, h2, i2⟩⟩

set_option maxRecDepth 100000 in
set_option maxHeartbeats 2000000 in
theorem do_write_ok (m : Mem) (S : Dq) (G : Nat → Prop) (a b : Int) (p : ByteArray) (c : Int) (vs : Value) (s : List Dt) (w : World) (h : DocMem w m S G) (hbk : Bm.bookE S.book = 0) (hmk : marksE S.marks = 0) (hp : Pm.chk p.toList = 0) (hk : Bm.writeE S.book p c = 0) :
    Calls Tryz.prog 60 #[.pointer (some ⟨m.D, 0, none⟩), .agg #[.int .i64 a, .int .i64 b, .int .i64 1, .string p, .int .i64 c, vs]] w (DoPost w m S G ((a, b), 1, p, c, s)) := by
  have HM : Hid (DocMem w m S G) := h
  have d0 := blk_cell h.blk (i := 0) (u := m.vb) rfl
  have d1 := blk_cell h.blk (i := 1) (u := m.vm) rfl
  have HB1 : Hid (Below w.heap.size w (w.alloc (.cells #[.int .i64 a, .int .i64 b, .int .i64 1, .string p, .int .i64 c, vs] 34))) := (Below.refl _ w).alloc (Nat.le_refl _) _
  have HBLK : Hid (∀ W, Below w.heap.size w W → W.cell? ⟨m.D, 0, none⟩ = some m.vb ∧ W.cell? ⟨m.D, 1, none⟩ = some m.vm ∧ W.frozen? ⟨m.D, 0, none⟩ = false ∧ W.frozen? ⟨m.D, 1, none⟩ = false) := fun W hb => by
    have h9 := (h.below hb).blk
    exact ⟨blk_cell h9 rfl, blk_cell h9 rfl, blk_free h9, blk_free h9⟩
  have HE : Hid (doE S ((a, b), 1, p, c, s) = Bm.writeE S.book p c) := by unfold Hid doE; rw [if_pos rfl]
  have HDB : Hid (doB S ((a, b), 1, p, c, s) = Bm.writeL S.book p c) := by unfold Hid doB; rw [if_pos rfl]
  have HDM : Hid (doM S ((a, b), 1, p, c, s) = S.marks) := by unfold Hid doM; rw [if_neg (by decide : ¬ (1 : Int) = 3), if_neg (by decide : ¬ (1 : Int) = 4)]
  have CC : Hid (∀ W, Below w.heap.size w W → Calls Tryz.prog 80 #[m.vb, .string p, .int .i64 c] W fun e w' => ∃ v', e = .returned (.tuple #[v', errV (Bm.writeE S.book p c)]) ∧ BookNew w.heap.size w' v' (Bm.writeL S.book p c) ∧ Below W.heap.size W w') :=
    fun W hb => (Lk.write_loc m.vb S.book p c W (h.book.below hb) (small_book hbk) (small_place hp)).mono fun e w' ⟨v', h1, h2, h3⟩ => ⟨v', h1, h2.mono hb.size, h3⟩
  rw [hk] at HE CC
  rw [errV_zero] at CC
  obtain ⟨D, hD⟩ : ∃ D, D = m.D := ⟨_, rfl⟩
  have HD : Hid (D = m.D) := hD
  obtain ⟨pb, nb, cb, hvb⟩ : ∃ p n c, m.vb = .slice p n c := by obtain ⟨p, c, e, _⟩ := h.book; exact ⟨_, _, _, e⟩
  obtain ⟨pm, nm, cm, hvm⟩ : ∃ p n c, m.vm = .slice p n c := by obtain ⟨p, c, e, _⟩ := h.marks; exact ⟨_, _, _, e⟩
  have HVB : Hid (m.vb = .slice pb nb cb) := hvb
  have HVM : Hid (m.vm = .slice pm nm cm) := hvm
  rw [hvb, hvm, ← hD] at HBLK
  rw [hvb, ← hD] at d0
  rw [hvm, ← hD] at d1
  rw [← hD]
  rw [hvb] at CC
  have e0 := keep_cell HB1.out d0
  have e1 := keep_cell HB1.out d1
  obtain ⟨o0, o1, o2, o3, o4, o5⟩ := six_new w a b 1 p c vs 34
  clear h hD hvb hvm hbk hmk hp d0 d1 hk
  go_enter Tryz.func60, Tryz.ntmps60
  go_wp2_with fail
  go_quiet (fail)
  go_wp2_with fail
  generalize hwq : World.drewN _ _ = wq
  have HBq : Hid (Below w.heap.size w wq) := by rw [← hwq]; exact bel_drew HB1.out _
  have k0 : wq.cell? ⟨w.heap.size, 0, none⟩ = some (.int .i64 a) := by rw [← hwq]; exact o0
  have k1 : wq.cell? ⟨w.heap.size, 1, none⟩ = some (.int .i64 b) := by rw [← hwq]; exact o1
  have k2 : wq.cell? ⟨w.heap.size, 2, none⟩ = some (.int .i64 1) := by rw [← hwq]; exact o2
  have k3 : wq.cell? ⟨w.heap.size, 3, none⟩ = some (.string p) := by rw [← hwq]; exact o3
  have k4 : wq.cell? ⟨w.heap.size, 4, none⟩ = some (.int .i64 c) := by rw [← hwq]; exact o4
  have k5 : wq.cell? ⟨w.heap.size, 5, none⟩ = some vs := by rw [← hwq]; exact o5
  clear hwq e0 e1 o0 o1 o2 o3 o4 o5 HB1
  go_wp2_with fail
  refine (CC.out wq HBq.out).mono ?_
  rintro e w7 ⟨v7, rfl, hk7, hb7⟩
  obtain ⟨p7, n7, c7, rfl⟩ : ∃ p n c, v7 = .slice p n c := by obtain ⟨⟨p, c, e, _⟩, _⟩ := hk7; exact ⟨_, _, _, e⟩
  have HK7 : Hid (BookNew w.heap.size w7 (.slice p7 n7 c7) (Bm.writeL S.book p c)) := hk7
  have HB7 : Hid (Below w.heap.size w w7) := bel HBq.out hb7
  clear hk7
  clear hb7
  go_wp2_with fail
  go_ret3
  refine DoPost.yes HE.out HB7.out ?_ ?_ ?_ ?_
  · rw [HDB.out]; exact HK7.out.1
  · exact (book_in HK7.out).mono fun g hg => Or.inr hg
  · rw [HDM.out, ← HVM.out]; exact HM.out.marks.below HB7.out
  · rw [← HVM.out]; exact HM.out.marksG.mono fun g hg => Or.inl hg

set_option maxRecDepth 100000 in
set_option maxHeartbeats 2000000 in
theorem do_write_no (m : Mem) (S : Dq) (G : Nat → Prop) (a b : Int) (p : ByteArray) (c : Int) (vs : Value) (s : List Dt) (w : World) (h : DocMem w m S G) (hbk : Bm.bookE S.book = 0) (hmk : marksE S.marks = 0) (hp : Pm.chk p.toList = 0) (k : Int) (hk : Bm.writeE S.book p c = k) (h0 : k ≠ 0) :
    Calls Tryz.prog 60 #[.pointer (some ⟨m.D, 0, none⟩), .agg #[.int .i64 a, .int .i64 b, .int .i64 1, .string p, .int .i64 c, vs]] w (DoPost w m S G ((a, b), 1, p, c, s)) := by
  have HM : Hid (DocMem w m S G) := h
  have d0 := blk_cell h.blk (i := 0) (u := m.vb) rfl
  have d1 := blk_cell h.blk (i := 1) (u := m.vm) rfl
  have HB1 : Hid (Below w.heap.size w (w.alloc (.cells #[.int .i64 a, .int .i64 b, .int .i64 1, .string p, .int .i64 c, vs] 34))) := (Below.refl _ w).alloc (Nat.le_refl _) _
  have HBLK : Hid (∀ W, Below w.heap.size w W → W.cell? ⟨m.D, 0, none⟩ = some m.vb ∧ W.cell? ⟨m.D, 1, none⟩ = some m.vm ∧ W.frozen? ⟨m.D, 0, none⟩ = false ∧ W.frozen? ⟨m.D, 1, none⟩ = false) := fun W hb => by
    have h9 := (h.below hb).blk
    exact ⟨blk_cell h9 rfl, blk_cell h9 rfl, blk_free h9, blk_free h9⟩
  have HE : Hid (doE S ((a, b), 1, p, c, s) = Bm.writeE S.book p c) := by unfold Hid doE; rw [if_pos rfl]
  have HDB : Hid (doB S ((a, b), 1, p, c, s) = Bm.writeL S.book p c) := by unfold Hid doB; rw [if_pos rfl]
  have HDM : Hid (doM S ((a, b), 1, p, c, s) = S.marks) := by unfold Hid doM; rw [if_neg (by decide : ¬ (1 : Int) = 3), if_neg (by decide : ¬ (1 : Int) = 4)]
  have CC : Hid (∀ W, Below w.heap.size w W → Calls Tryz.prog 80 #[m.vb, .string p, .int .i64 c] W fun e w' => ∃ v', e = .returned (.tuple #[v', errV (Bm.writeE S.book p c)]) ∧ BookNew w.heap.size w' v' (Bm.writeL S.book p c) ∧ Below W.heap.size W w') :=
    fun W hb => (Lk.write_loc m.vb S.book p c W (h.book.below hb) (small_book hbk) (small_place hp)).mono fun e w' ⟨v', h1, h2, h3⟩ => ⟨v', h1, h2.mono hb.size, h3⟩
  rw [hk] at HE CC
  rw [errV_ne h0] at CC
  have H0 : Hid (k ≠ 0) := h0
  obtain ⟨D, hD⟩ : ∃ D, D = m.D := ⟨_, rfl⟩
  have HD : Hid (D = m.D) := hD
  obtain ⟨pb, nb, cb, hvb⟩ : ∃ p n c, m.vb = .slice p n c := by obtain ⟨p, c, e, _⟩ := h.book; exact ⟨_, _, _, e⟩
  obtain ⟨pm, nm, cm, hvm⟩ : ∃ p n c, m.vm = .slice p n c := by obtain ⟨p, c, e, _⟩ := h.marks; exact ⟨_, _, _, e⟩
  have HVB : Hid (m.vb = .slice pb nb cb) := hvb
  have HVM : Hid (m.vm = .slice pm nm cm) := hvm
  rw [hvb, hvm, ← hD] at HBLK
  rw [hvb, ← hD] at d0
  rw [hvm, ← hD] at d1
  rw [← hD]
  rw [hvb] at CC
  have e0 := keep_cell HB1.out d0
  have e1 := keep_cell HB1.out d1
  obtain ⟨o0, o1, o2, o3, o4, o5⟩ := six_new w a b 1 p c vs 34
  clear h hD hvb hvm hbk hmk hp d0 d1 hk h0
  go_enter Tryz.func60, Tryz.ntmps60
  go_wp2_with fail
  go_quiet (fail)
  go_wp2_with fail
  generalize hwq : World.drewN _ _ = wq
  have HBq : Hid (Below w.heap.size w wq) := by rw [← hwq]; exact bel_drew HB1.out _
  have k0 : wq.cell? ⟨w.heap.size, 0, none⟩ = some (.int .i64 a) := by rw [← hwq]; exact o0
  have k1 : wq.cell? ⟨w.heap.size, 1, none⟩ = some (.int .i64 b) := by rw [← hwq]; exact o1
  have k2 : wq.cell? ⟨w.heap.size, 2, none⟩ = some (.int .i64 1) := by rw [← hwq]; exact o2
  have k3 : wq.cell? ⟨w.heap.size, 3, none⟩ = some (.string p) := by rw [← hwq]; exact o3
  have k4 : wq.cell? ⟨w.heap.size, 4, none⟩ = some (.int .i64 c) := by rw [← hwq]; exact o4
  have k5 : wq.cell? ⟨w.heap.size, 5, none⟩ = some vs := by rw [← hwq]; exact o5
  clear hwq e0 e1 o0 o1 o2 o3 o4 o5 HB1
  go_wp2_with fail
  refine (CC.out wq HBq.out).mono ?_
  rintro e w7 ⟨v7, rfl, hk7, hb7⟩
  have HB7 : Hid (Below w.heap.size w w7) := bel HBq.out hb7
  clear hk7 hb7
  go_wp2_with fail
  go_ret3
  exact DoPost.no HE.out H0.out HB7.out

set_option maxRecDepth 100000 in
set_option maxHeartbeats 2000000 in
theorem do_strike_ok (m : Mem) (S : Dq) (G : Nat → Prop) (a b : Int) (p : ByteArray) (c : Int) (vs : Value) (s : List Dt) (w : World) (h : DocMem w m S G) (hbk : Bm.bookE S.book = 0) (hmk : marksE S.marks = 0) (hp : Pm.chk p.toList = 0) (hk : Bm.strikeE S.book p = 0) :
    Calls Tryz.prog 60 #[.pointer (some ⟨m.D, 0, none⟩), .agg #[.int .i64 a, .int .i64 b, .int .i64 2, .string p, .int .i64 c, vs]] w (DoPost w m S G ((a, b), 2, p, c, s)) := by
  have HM : Hid (DocMem w m S G) := h
  have d0 := blk_cell h.blk (i := 0) (u := m.vb) rfl
  have d1 := blk_cell h.blk (i := 1) (u := m.vm) rfl
  have HB1 : Hid (Below w.heap.size w (w.alloc (.cells #[.int .i64 a, .int .i64 b, .int .i64 2, .string p, .int .i64 c, vs] 34))) := (Below.refl _ w).alloc (Nat.le_refl _) _
  have HBLK : Hid (∀ W, Below w.heap.size w W → W.cell? ⟨m.D, 0, none⟩ = some m.vb ∧ W.cell? ⟨m.D, 1, none⟩ = some m.vm ∧ W.frozen? ⟨m.D, 0, none⟩ = false ∧ W.frozen? ⟨m.D, 1, none⟩ = false) := fun W hb => by
    have h9 := (h.below hb).blk
    exact ⟨blk_cell h9 rfl, blk_cell h9 rfl, blk_free h9, blk_free h9⟩
  have HE : Hid (doE S ((a, b), 2, p, c, s) = Bm.strikeE S.book p) := by unfold Hid doE; rw [if_neg (by decide : ¬ (2 : Int) = 1), if_pos rfl]
  have HDB : Hid (doB S ((a, b), 2, p, c, s) = Bm.strikeL S.book p) := by unfold Hid doB; rw [if_neg (by decide : ¬ (2 : Int) = 1), if_pos rfl]
  have HDM : Hid (doM S ((a, b), 2, p, c, s) = S.marks) := by unfold Hid doM; rw [if_neg (by decide : ¬ (2 : Int) = 3), if_neg (by decide : ¬ (2 : Int) = 4)]
  have CC : Hid (∀ W, Below w.heap.size w W → Calls Tryz.prog 81 #[m.vb, .string p] W fun e w' => ∃ v', e = .returned (.tuple #[v', errV (Bm.strikeE S.book p)]) ∧ BookNew w.heap.size w' v' (Bm.strikeL S.book p) ∧ Below W.heap.size W w') :=
    fun W hb => (Lk.strike_loc m.vb S.book p W (h.book.below hb) (small_book hbk) (small_place hp)).mono fun e w' ⟨v', h1, h2, h3⟩ => ⟨v', h1, h2.mono hb.size, h3⟩
  rw [hk] at HE CC
  rw [errV_zero] at CC
  obtain ⟨D, hD⟩ : ∃ D, D = m.D := ⟨_, rfl⟩
  have HD : Hid (D = m.D) := hD
  obtain ⟨pb, nb, cb, hvb⟩ : ∃ p n c, m.vb = .slice p n c := by obtain ⟨p, c, e, _⟩ := h.book; exact ⟨_, _, _, e⟩
  obtain ⟨pm, nm, cm, hvm⟩ : ∃ p n c, m.vm = .slice p n c := by obtain ⟨p, c, e, _⟩ := h.marks; exact ⟨_, _, _, e⟩
  have HVB : Hid (m.vb = .slice pb nb cb) := hvb
  have HVM : Hid (m.vm = .slice pm nm cm) := hvm
  rw [hvb, hvm, ← hD] at HBLK
  rw [hvb, ← hD] at d0
  rw [hvm, ← hD] at d1
  rw [← hD]
  rw [hvb] at CC
  have e0 := keep_cell HB1.out d0
  have e1 := keep_cell HB1.out d1
  obtain ⟨o0, o1, o2, o3, o4, o5⟩ := six_new w a b 2 p c vs 34
  clear h hD hvb hvm hbk hmk hp d0 d1 hk
  go_enter Tryz.func60, Tryz.ntmps60
  go_wp2_with fail
  go_quiet (fail)
  go_wp2_with fail
  generalize hwq : World.drewN _ _ = wq
  have HBq : Hid (Below w.heap.size w wq) := by rw [← hwq]; exact bel_drew HB1.out _
  have k0 : wq.cell? ⟨w.heap.size, 0, none⟩ = some (.int .i64 a) := by rw [← hwq]; exact o0
  have k1 : wq.cell? ⟨w.heap.size, 1, none⟩ = some (.int .i64 b) := by rw [← hwq]; exact o1
  have k2 : wq.cell? ⟨w.heap.size, 2, none⟩ = some (.int .i64 2) := by rw [← hwq]; exact o2
  have k3 : wq.cell? ⟨w.heap.size, 3, none⟩ = some (.string p) := by rw [← hwq]; exact o3
  have k4 : wq.cell? ⟨w.heap.size, 4, none⟩ = some (.int .i64 c) := by rw [← hwq]; exact o4
  have k5 : wq.cell? ⟨w.heap.size, 5, none⟩ = some vs := by rw [← hwq]; exact o5
  clear hwq e0 e1 o0 o1 o2 o3 o4 o5 HB1
  go_wp2_with fail
  refine (CC.out wq HBq.out).mono ?_
  rintro e w7 ⟨v7, rfl, hk7, hb7⟩
  obtain ⟨p7, n7, c7, rfl⟩ : ∃ p n c, v7 = .slice p n c := by obtain ⟨⟨p, c, e, _⟩, _⟩ := hk7; exact ⟨_, _, _, e⟩
  have HK7 : Hid (BookNew w.heap.size w7 (.slice p7 n7 c7) (Bm.strikeL S.book p)) := hk7
  have HB7 : Hid (Below w.heap.size w w7) := bel HBq.out hb7
  clear hk7
  clear hb7
  go_wp2_with fail
  go_ret3
  refine DoPost.yes HE.out HB7.out ?_ ?_ ?_ ?_
  · rw [HDB.out]; exact HK7.out.1
  · exact (book_in HK7.out).mono fun g hg => Or.inr hg
  · rw [HDM.out, ← HVM.out]; exact HM.out.marks.below HB7.out
  · rw [← HVM.out]; exact HM.out.marksG.mono fun g hg => Or.inl hg

set_option maxRecDepth 100000 in
set_option maxHeartbeats 2000000 in
theorem do_strike_no (m : Mem) (S : Dq) (G : Nat → Prop) (a b : Int) (p : ByteArray) (c : Int) (vs : Value) (s : List Dt) (w : World) (h : DocMem w m S G) (hbk : Bm.bookE S.book = 0) (hmk : marksE S.marks = 0) (hp : Pm.chk p.toList = 0) (k : Int) (hk : Bm.strikeE S.book p = k) (h0 : k ≠ 0) :
    Calls Tryz.prog 60 #[.pointer (some ⟨m.D, 0, none⟩), .agg #[.int .i64 a, .int .i64 b, .int .i64 2, .string p, .int .i64 c, vs]] w (DoPost w m S G ((a, b), 2, p, c, s)) := by
  have HM : Hid (DocMem w m S G) := h
  have d0 := blk_cell h.blk (i := 0) (u := m.vb) rfl
  have d1 := blk_cell h.blk (i := 1) (u := m.vm) rfl
  have HB1 : Hid (Below w.heap.size w (w.alloc (.cells #[.int .i64 a, .int .i64 b, .int .i64 2, .string p, .int .i64 c, vs] 34))) := (Below.refl _ w).alloc (Nat.le_refl _) _
  have HBLK : Hid (∀ W, Below w.heap.size w W → W.cell? ⟨m.D, 0, none⟩ = some m.vb ∧ W.cell? ⟨m.D, 1, none⟩ = some m.vm ∧ W.frozen? ⟨m.D, 0, none⟩ = false ∧ W.frozen? ⟨m.D, 1, none⟩ = false) := fun W hb => by
    have h9 := (h.below hb).blk
    exact ⟨blk_cell h9 rfl, blk_cell h9 rfl, blk_free h9, blk_free h9⟩
  have HE : Hid (doE S ((a, b), 2, p, c, s) = Bm.strikeE S.book p) := by unfold Hid doE; rw [if_neg (by decide : ¬ (2 : Int) = 1), if_pos rfl]
  have HDB : Hid (doB S ((a, b), 2, p, c, s) = Bm.strikeL S.book p) := by unfold Hid doB; rw [if_neg (by decide : ¬ (2 : Int) = 1), if_pos rfl]
  have HDM : Hid (doM S ((a, b), 2, p, c, s) = S.marks) := by unfold Hid doM; rw [if_neg (by decide : ¬ (2 : Int) = 3), if_neg (by decide : ¬ (2 : Int) = 4)]
  have CC : Hid (∀ W, Below w.heap.size w W → Calls Tryz.prog 81 #[m.vb, .string p] W fun e w' => ∃ v', e = .returned (.tuple #[v', errV (Bm.strikeE S.book p)]) ∧ BookNew w.heap.size w' v' (Bm.strikeL S.book p) ∧ Below W.heap.size W w') :=
    fun W hb => (Lk.strike_loc m.vb S.book p W (h.book.below hb) (small_book hbk) (small_place hp)).mono fun e w' ⟨v', h1, h2, h3⟩ => ⟨v', h1, h2.mono hb.size, h3⟩
  rw [hk] at HE CC
  rw [errV_ne h0] at CC
  have H0 : Hid (k ≠ 0) := h0
  obtain ⟨D, hD⟩ : ∃ D, D = m.D := ⟨_, rfl⟩
  have HD : Hid (D = m.D) := hD
  obtain ⟨pb, nb, cb, hvb⟩ : ∃ p n c, m.vb = .slice p n c := by obtain ⟨p, c, e, _⟩ := h.book; exact ⟨_, _, _, e⟩
  obtain ⟨pm, nm, cm, hvm⟩ : ∃ p n c, m.vm = .slice p n c := by obtain ⟨p, c, e, _⟩ := h.marks; exact ⟨_, _, _, e⟩
  have HVB : Hid (m.vb = .slice pb nb cb) := hvb
  have HVM : Hid (m.vm = .slice pm nm cm) := hvm
  rw [hvb, hvm, ← hD] at HBLK
  rw [hvb, ← hD] at d0
  rw [hvm, ← hD] at d1
  rw [← hD]
  rw [hvb] at CC
  have e0 := keep_cell HB1.out d0
  have e1 := keep_cell HB1.out d1
  obtain ⟨o0, o1, o2, o3, o4, o5⟩ := six_new w a b 2 p c vs 34
  clear h hD hvb hvm hbk hmk hp d0 d1 hk h0
  go_enter Tryz.func60, Tryz.ntmps60
  go_wp2_with fail
  go_quiet (fail)
  go_wp2_with fail
  generalize hwq : World.drewN _ _ = wq
  have HBq : Hid (Below w.heap.size w wq) := by rw [← hwq]; exact bel_drew HB1.out _
  have k0 : wq.cell? ⟨w.heap.size, 0, none⟩ = some (.int .i64 a) := by rw [← hwq]; exact o0
  have k1 : wq.cell? ⟨w.heap.size, 1, none⟩ = some (.int .i64 b) := by rw [← hwq]; exact o1
  have k2 : wq.cell? ⟨w.heap.size, 2, none⟩ = some (.int .i64 2) := by rw [← hwq]; exact o2
  have k3 : wq.cell? ⟨w.heap.size, 3, none⟩ = some (.string p) := by rw [← hwq]; exact o3
  have k4 : wq.cell? ⟨w.heap.size, 4, none⟩ = some (.int .i64 c) := by rw [← hwq]; exact o4
  have k5 : wq.cell? ⟨w.heap.size, 5, none⟩ = some vs := by rw [← hwq]; exact o5
  clear hwq e0 e1 o0 o1 o2 o3 o4 o5 HB1
  go_wp2_with fail
  refine (CC.out wq HBq.out).mono ?_
  rintro e w7 ⟨v7, rfl, hk7, hb7⟩
  have HB7 : Hid (Below w.heap.size w w7) := bel HBq.out hb7
  clear hk7 hb7
  go_wp2_with fail
  go_ret3
  exact DoPost.no HE.out H0.out HB7.out

set_option maxRecDepth 100000 in
set_option maxHeartbeats 2000000 in
theorem do_cut_gone (m : Mem) (S : Dq) (G : Nat → Prop) (a b : Int) (p : ByteArray) (c : Int) (vs : Value) (s : List Dt) (w : World) (h : DocMem w m S G) (hbk : Bm.bookE S.book = 0) (hmk : marksE S.marks = 0) (hp : Pm.chk p.toList = 0) (hs : ∀ x ∈ m.M, x.2.2.length ≤ 1048576) (hj : isIn (getJ m.M (a, b)) p = true) (hsw : saw S.ops p (a, b) = true) :
    Calls Tryz.prog 60 #[.pointer (some ⟨m.D, 0, none⟩), .agg #[.int .i64 a, .int .i64 b, .int .i64 3, .string p, .int .i64 c, vs]] w (DoPost w m S G ((a, b), 3, p, c, s)) := by
  have HM : Hid (DocMem w m S G) := h
  have d0 := blk_cell h.blk (i := 0) (u := m.vb) rfl
  have d1 := blk_cell h.blk (i := 1) (u := m.vm) rfl
  have HB1 : Hid (Below w.heap.size w (w.alloc (.cells #[.int .i64 a, .int .i64 b, .int .i64 3, .string p, .int .i64 c, vs] 34))) := (Below.refl _ w).alloc (Nat.le_refl _) _
  have HBLK : Hid (∀ W, Below w.heap.size w W → W.cell? ⟨m.D, 0, none⟩ = some m.vb ∧ W.cell? ⟨m.D, 1, none⟩ = some m.vm ∧ W.frozen? ⟨m.D, 0, none⟩ = false ∧ W.frozen? ⟨m.D, 1, none⟩ = false) := fun W hb => by
    have h9 := (h.below hb).blk
    exact ⟨blk_cell h9 rfl, blk_cell h9 rfl, blk_free h9, blk_free h9⟩
  have HDB : Hid (doB S ((a, b), 3, p, c, s) = S.book) := by unfold Hid doB; rw [if_neg (by decide : ¬ (3 : Int) = 1), if_neg (by decide : ¬ (3 : Int) = 2)]
  have HE : Hid (doE S ((a, b), 3, p, c, s) = 0) := by unfold Hid doE; rw [if_neg (by decide : ¬ (3 : Int) = 1), if_neg (by decide : ¬ (3 : Int) = 2), if_pos rfl]; simp only [hsw, if_true]
  have HDM : Hid (doM S ((a, b), 3, p, c, s) = S.marks) := by unfold Hid doM; rw [if_pos rfl]; simp only [hsw, if_true]
  have CC : Hid (∀ W, Below w.heap.size w W → Calls Tryz.prog 82 #[.pointer (some ⟨m.D, 0, none⟩), .agg #[.int .i64 a, .int .i64 b, .int .i64 3, .string p, .int .i64 c, vs]] W fun e w' => e = .returned (.tuple #[m.vm, .nilIface]) ∧ Below W.heap.size W w') :=
    fun W hb => cut_gone m S G a b 3 p c vs W (h.below hb) hs hj
  obtain ⟨D, hD⟩ : ∃ D, D = m.D := ⟨_, rfl⟩
  have HD : Hid (D = m.D) := hD
  obtain ⟨pb, nb, cb, hvb⟩ : ∃ p n c, m.vb = .slice p n c := by obtain ⟨p, c, e, _⟩ := h.book; exact ⟨_, _, _, e⟩
  obtain ⟨pm, nm, cm, hvm⟩ : ∃ p n c, m.vm = .slice p n c := by obtain ⟨p, c, e, _⟩ := h.marks; exact ⟨_, _, _, e⟩
  have HVB : Hid (m.vb = .slice pb nb cb) := hvb
  have HVM : Hid (m.vm = .slice pm nm cm) := hvm
  rw [hvb, hvm, ← hD] at HBLK
  rw [hvb, ← hD] at d0
  rw [hvm, ← hD] at d1
  rw [← hD]
  rw [hvm, ← hD] at CC
  have e0 := keep_cell HB1.out d0
  have e1 := keep_cell HB1.out d1
  obtain ⟨o0, o1, o2, o3, o4, o5⟩ := six_new w a b 3 p c vs 34
  clear h hD hvb hvm hbk hmk hp d0 d1 hs hj hsw
  go_enter Tryz.func60, Tryz.ntmps60
  go_wp2_with fail
  go_quiet (fail)
  go_wp2_with fail
  generalize hwq : World.drewN _ _ = wq
  have HBq : Hid (Below w.heap.size w wq) := by rw [← hwq]; exact bel_drew HB1.out _
  have k0 : wq.cell? ⟨w.heap.size, 0, none⟩ = some (.int .i64 a) := by rw [← hwq]; exact o0
  have k1 : wq.cell? ⟨w.heap.size, 1, none⟩ = some (.int .i64 b) := by rw [← hwq]; exact o1
  have k2 : wq.cell? ⟨w.heap.size, 2, none⟩ = some (.int .i64 3) := by rw [← hwq]; exact o2
  have k3 : wq.cell? ⟨w.heap.size, 3, none⟩ = some (.string p) := by rw [← hwq]; exact o3
  have k4 : wq.cell? ⟨w.heap.size, 4, none⟩ = some (.int .i64 c) := by rw [← hwq]; exact o4
  have k5 : wq.cell? ⟨w.heap.size, 5, none⟩ = some vs := by rw [← hwq]; exact o5
  clear hwq e0 e1 o0 o1 o2 o3 o4 o5 HB1
  go_wp2_with fail
  refine (CC.out wq HBq.out).mono ?_
  rintro e w7 ⟨rfl, hb7⟩
  have HB7 : Hid (Below w.heap.size w w7) := bel HBq.out hb7
  clear hb7
  go_wp2_with fail
  go_ret3
  refine DoPost.yes HE.out HB7.out ?_ ?_ ?_ ?_
  · rw [HDB.out, ← HVB.out]; exact HM.out.book.below HB7.out
  · rw [← HVB.out]; exact HM.out.bookG.mono fun g hg => Or.inl hg
  · rw [HDM.out, ← HVM.out]; exact HM.out.marks.below HB7.out
  · rw [← HVM.out]; exact HM.out.marksG.mono fun g hg => Or.inl hg

set_option maxRecDepth 100000 in
set_option maxHeartbeats 2000000 in
theorem do_cut_ok (m : Mem) (S : Dq) (G : Nat → Prop) (a b : Int) (p : ByteArray) (c : Int) (vs : Value) (s : List Dt) (w : World) (h : DocMem w m S G) (hbk : Bm.bookE S.book = 0) (hmk : marksE S.marks = 0) (hp : Pm.chk p.toList = 0) (hs : ∀ x ∈ m.M, x.2.2.length ≤ 1048576) (hd : dotE a b = 0) (hj : isIn (getJ m.M (a, b)) p = false) (hsw : saw S.ops p (a, b) = false) (hk : withM S.marks (p, (a, b)) = 0) :
    Calls Tryz.prog 60 #[.pointer (some ⟨m.D, 0, none⟩), .agg #[.int .i64 a, .int .i64 b, .int .i64 3, .string p, .int .i64 c, vs]] w (DoPost w m S G ((a, b), 3, p, c, s)) := by
  have HM : Hid (DocMem w m S G) := h
  have d0 := blk_cell h.blk (i := 0) (u := m.vb) rfl
  have d1 := blk_cell h.blk (i := 1) (u := m.vm) rfl
  have HB1 : Hid (Below w.heap.size w (w.alloc (.cells #[.int .i64 a, .int .i64 b, .int .i64 3, .string p, .int .i64 c, vs] 34))) := (Below.refl _ w).alloc (Nat.le_refl _) _
  have HBLK : Hid (∀ W, Below w.heap.size w W → W.cell? ⟨m.D, 0, none⟩ = some m.vb ∧ W.cell? ⟨m.D, 1, none⟩ = some m.vm ∧ W.frozen? ⟨m.D, 0, none⟩ = false ∧ W.frozen? ⟨m.D, 1, none⟩ = false) := fun W hb => by
    have h9 := (h.below hb).blk
    exact ⟨blk_cell h9 rfl, blk_cell h9 rfl, blk_free h9, blk_free h9⟩
  have HDB : Hid (doB S ((a, b), 3, p, c, s) = S.book) := by unfold Hid doB; rw [if_neg (by decide : ¬ (3 : Int) = 1), if_neg (by decide : ¬ (3 : Int) = 2)]
  have CC : Hid (∀ W, Below w.heap.size w W → Calls Tryz.prog 82 #[.pointer (some ⟨m.D, 0, none⟩), .agg #[.int .i64 a, .int .i64 b, .int .i64 3, .string p, .int .i64 c, vs]] W fun e w' => ∃ v', e = .returned (.tuple #[v', errV (cutE S.marks (p, (a, b)))]) ∧ MksNew w.heap.size w' v' (cutL S.marks (p, (a, b))) ∧ Below W.heap.size W w') :=
    fun W hb => (cut_not m S G a b 3 p c vs W (h.below hb) hs hj hmk (small_place hp)).mono fun e w' ⟨v', h1, h2, h3⟩ => ⟨v', h1, h2.mono hb.size, h3⟩
  have hcw : cutE S.marks (p, (a, b)) = withM S.marks (p, (a, b)) := by
    unfold cutE; rw [if_neg (by simpa using hmk), if_neg (by unfold markE; rw [if_neg (by simpa using hp)]; simpa using hd)]
  have HE : Hid (doE S ((a, b), 3, p, c, s) = withM S.marks (p, (a, b))) := by unfold Hid doE; rw [if_neg (by decide : ¬ (3 : Int) = 1), if_neg (by decide : ¬ (3 : Int) = 2), if_pos rfl]; simp only [hsw]; rfl
  have HDM : Hid (doM S ((a, b), 3, p, c, s) = ins mlt S.marks (p, (a, b))) := by unfold Hid doM; rw [if_pos rfl]; simp only [hsw]; rfl
  have hcl : cutL S.marks (p, (a, b)) = ins mlt S.marks (p, (a, b)) := by unfold cutL; rw [hcw, if_pos hk]
  rw [hk] at HE
  rw [hcw, hk, errV_zero, hcl] at CC
  obtain ⟨D, hD⟩ : ∃ D, D = m.D := ⟨_, rfl⟩
  have HD : Hid (D = m.D) := hD
  obtain ⟨pb, nb, cb, hvb⟩ : ∃ p n c, m.vb = .slice p n c := by obtain ⟨p, c, e, _⟩ := h.book; exact ⟨_, _, _, e⟩
  obtain ⟨pm, nm, cm, hvm⟩ : ∃ p n c, m.vm = .slice p n c := by obtain ⟨p, c, e, _⟩ := h.marks; exact ⟨_, _, _, e⟩
  have HVB : Hid (m.vb = .slice pb nb cb) := hvb
  have HVM : Hid (m.vm = .slice pm nm cm) := hvm
  rw [hvb, hvm, ← hD] at HBLK
  rw [hvb, ← hD] at d0
  rw [hvm, ← hD] at d1
  rw [← hD]
  rw [← hD] at CC
  have e0 := keep_cell HB1.out d0
  have e1 := keep_cell HB1.out d1
  obtain ⟨o0, o1, o2, o3, o4, o5⟩ := six_new w a b 3 p c vs 34
  clear h hD hvb hvm hbk hmk hp d0 d1 hs hj hsw hk hcl hcw hd
  go_enter Tryz.func60, Tryz.ntmps60
  go_wp2_with fail
  go_quiet (fail)
  go_wp2_with fail
  generalize hwq : World.drewN _ _ = wq
  have HBq : Hid (Below w.heap.size w wq) := by rw [← hwq]; exact bel_drew HB1.out _
  have k0 : wq.cell? ⟨w.heap.size, 0, none⟩ = some (.int .i64 a) := by rw [← hwq]; exact o0
  have k1 : wq.cell? ⟨w.heap.size, 1, none⟩ = some (.int .i64 b) := by rw [← hwq]; exact o1
  have k2 : wq.cell? ⟨w.heap.size, 2, none⟩ = some (.int .i64 3) := by rw [← hwq]; exact o2
  have k3 : wq.cell? ⟨w.heap.size, 3, none⟩ = some (.string p) := by rw [← hwq]; exact o3
  have k4 : wq.cell? ⟨w.heap.size, 4, none⟩ = some (.int .i64 c) := by rw [← hwq]; exact o4
  have k5 : wq.cell? ⟨w.heap.size, 5, none⟩ = some vs := by rw [← hwq]; exact o5
  clear hwq e0 e1 o0 o1 o2 o3 o4 o5 HB1
  go_wp2_with fail
  refine (CC.out wq HBq.out).mono ?_
  rintro e w7 ⟨v7, rfl, hk7, hb7⟩
  obtain ⟨p7, n7, c7, rfl⟩ : ∃ p n c, v7 = .slice p n c := by obtain ⟨⟨p, c, e, _⟩, _⟩ := hk7; exact ⟨_, _, _, e⟩
  have HK7 : Hid (MksNew w.heap.size w7 (.slice p7 n7 c7) (ins mlt S.marks (p, (a, b)))) := hk7
  have HB7 : Hid (Below w.heap.size w w7) := bel HBq.out hb7
  clear hk7
  clear hb7
  go_wp2_with fail
  go_ret3
  refine DoPost.yes HE.out HB7.out ?_ ?_ ?_ ?_
  · rw [HDB.out, ← HVB.out]; exact HM.out.book.below HB7.out
  · rw [← HVB.out]; exact HM.out.bookG.mono fun g hg => Or.inl hg
  · rw [HDM.out]; exact HK7.out.1
  · exact (marks_in HK7.out).mono fun g hg => Or.inr hg

set_option maxRecDepth 100000 in
set_option maxHeartbeats 2000000 in
theorem do_cut_no (m : Mem) (S : Dq) (G : Nat → Prop) (a b : Int) (p : ByteArray) (c : Int) (vs : Value) (s : List Dt) (w : World) (h : DocMem w m S G) (hbk : Bm.bookE S.book = 0) (hmk : marksE S.marks = 0) (hp : Pm.chk p.toList = 0) (hs : ∀ x ∈ m.M, x.2.2.length ≤ 1048576) (hd : dotE a b = 0) (hj : isIn (getJ m.M (a, b)) p = false) (hsw : saw S.ops p (a, b) = false) (k : Int) (hk : withM S.marks (p, (a, b)) = k) (h0 : k ≠ 0) :
    Calls Tryz.prog 60 #[.pointer (some ⟨m.D, 0, none⟩), .agg #[.int .i64 a, .int .i64 b, .int .i64 3, .string p, .int .i64 c, vs]] w (DoPost w m S G ((a, b), 3, p, c, s)) := by
  have HM : Hid (DocMem w m S G) := h
  have d0 := blk_cell h.blk (i := 0) (u := m.vb) rfl
  have d1 := blk_cell h.blk (i := 1) (u := m.vm) rfl
  have HB1 : Hid (Below w.heap.size w (w.alloc (.cells #[.int .i64 a, .int .i64 b, .int .i64 3, .string p, .int .i64 c, vs] 34))) := (Below.refl _ w).alloc (Nat.le_refl _) _
  have HBLK : Hid (∀ W, Below w.heap.size w W → W.cell? ⟨m.D, 0, none⟩ = some m.vb ∧ W.cell? ⟨m.D, 1, none⟩ = some m.vm ∧ W.frozen? ⟨m.D, 0, none⟩ = false ∧ W.frozen? ⟨m.D, 1, none⟩ = false) := fun W hb => by
    have h9 := (h.below hb).blk
    exact ⟨blk_cell h9 rfl, blk_cell h9 rfl, blk_free h9, blk_free h9⟩
  have CC : Hid (∀ W, Below w.heap.size w W → Calls Tryz.prog 82 #[.pointer (some ⟨m.D, 0, none⟩), .agg #[.int .i64 a, .int .i64 b, .int .i64 3, .string p, .int .i64 c, vs]] W fun e w' => ∃ v', e = .returned (.tuple #[v', errV (cutE S.marks (p, (a, b)))]) ∧ MksNew w.heap.size w' v' (cutL S.marks (p, (a, b))) ∧ Below W.heap.size W w') :=
    fun W hb => (cut_not m S G a b 3 p c vs W (h.below hb) hs hj hmk (small_place hp)).mono fun e w' ⟨v', h1, h2, h3⟩ => ⟨v', h1, h2.mono hb.size, h3⟩
  have hcw : cutE S.marks (p, (a, b)) = withM S.marks (p, (a, b)) := by
    unfold cutE; rw [if_neg (by simpa using hmk), if_neg (by unfold markE; rw [if_neg (by simpa using hp)]; simpa using hd)]
  have HE : Hid (doE S ((a, b), 3, p, c, s) = withM S.marks (p, (a, b))) := by unfold Hid doE; rw [if_neg (by decide : ¬ (3 : Int) = 1), if_neg (by decide : ¬ (3 : Int) = 2), if_pos rfl]; simp only [hsw]; rfl
  have HDM : Hid (doM S ((a, b), 3, p, c, s) = ins mlt S.marks (p, (a, b))) := by unfold Hid doM; rw [if_pos rfl]; simp only [hsw]; rfl
  have H0 : Hid (k ≠ 0) := h0
  rw [hk] at HE
  rw [hcw, hk, errV_ne h0] at CC
  obtain ⟨D, hD⟩ : ∃ D, D = m.D := ⟨_, rfl⟩
  have HD : Hid (D = m.D) := hD
  obtain ⟨pb, nb, cb, hvb⟩ : ∃ p n c, m.vb = .slice p n c := by obtain ⟨p, c, e, _⟩ := h.book; exact ⟨_, _, _, e⟩
  obtain ⟨pm, nm, cm, hvm⟩ : ∃ p n c, m.vm = .slice p n c := by obtain ⟨p, c, e, _⟩ := h.marks; exact ⟨_, _, _, e⟩
  have HVB : Hid (m.vb = .slice pb nb cb) := hvb
  have HVM : Hid (m.vm = .slice pm nm cm) := hvm
  rw [hvb, hvm, ← hD] at HBLK
  rw [hvb, ← hD] at d0
  rw [hvm, ← hD] at d1
  rw [← hD]
  rw [← hD] at CC
  have e0 := keep_cell HB1.out d0
  have e1 := keep_cell HB1.out d1
  obtain ⟨o0, o1, o2, o3, o4, o5⟩ := six_new w a b 3 p c vs 34
  clear h hD hvb hvm hbk hmk hp d0 d1 hs hj hsw hk hcw hd h0
  go_enter Tryz.func60, Tryz.ntmps60
  go_wp2_with fail
  go_quiet (fail)
  go_wp2_with fail
  generalize hwq : World.drewN _ _ = wq
  have HBq : Hid (Below w.heap.size w wq) := by rw [← hwq]; exact bel_drew HB1.out _
  have k0 : wq.cell? ⟨w.heap.size, 0, none⟩ = some (.int .i64 a) := by rw [← hwq]; exact o0
  have k1 : wq.cell? ⟨w.heap.size, 1, none⟩ = some (.int .i64 b) := by rw [← hwq]; exact o1
  have k2 : wq.cell? ⟨w.heap.size, 2, none⟩ = some (.int .i64 3) := by rw [← hwq]; exact o2
  have k3 : wq.cell? ⟨w.heap.size, 3, none⟩ = some (.string p) := by rw [← hwq]; exact o3
  have k4 : wq.cell? ⟨w.heap.size, 4, none⟩ = some (.int .i64 c) := by rw [← hwq]; exact o4
  have k5 : wq.cell? ⟨w.heap.size, 5, none⟩ = some vs := by rw [← hwq]; exact o5
  clear hwq e0 e1 o0 o1 o2 o3 o4 o5 HB1
  go_wp2_with fail
  refine (CC.out wq HBq.out).mono ?_
  rintro e w7 ⟨v7, rfl, hk7, hb7⟩
  have HB7 : Hid (Below w.heap.size w w7) := bel HBq.out hb7
  clear hk7 hb7
  go_wp2_with fail
  go_ret3
  exact DoPost.no HE.out H0.out HB7.out

set_option maxRecDepth 100000 in
set_option maxHeartbeats 2000000 in
theorem do_join_ok (m : Mem) (S : Dq) (G : Nat → Prop) (a b : Int) (p : ByteArray) (c : Int) (vs : Value) (s : List Dt) (w : World) (h : DocMem w m S G) (hbk : Bm.bookE S.book = 0) (hmk : marksE S.marks = 0) (hp : Pm.chk p.toList = 0) (hd : DtsAt w vs s) (h0 : joinE S.marks p s = 0) :
    Calls Tryz.prog 60 #[.pointer (some ⟨m.D, 0, none⟩), .agg #[.int .i64 a, .int .i64 b, .int .i64 4, .string p, .int .i64 c, vs]] w (DoPost w m S G ((a, b), 4, p, c, s)) := by
  have HM : Hid (DocMem w m S G) := h
  have d0 := blk_cell h.blk (i := 0) (u := m.vb) rfl
  have d1 := blk_cell h.blk (i := 1) (u := m.vm) rfl
  have HB1 : Hid (Below w.heap.size w (w.alloc (.cells #[.int .i64 a, .int .i64 b, .int .i64 4, .string p, .int .i64 c, vs] 34))) := (Below.refl _ w).alloc (Nat.le_refl _) _
  have HBLK : Hid (∀ W, Below w.heap.size w W → W.cell? ⟨m.D, 0, none⟩ = some m.vb ∧ W.cell? ⟨m.D, 1, none⟩ = some m.vm ∧ W.frozen? ⟨m.D, 0, none⟩ = false ∧ W.frozen? ⟨m.D, 1, none⟩ = false) := fun W hb => by
    have h9 := (h.below hb).blk
    exact ⟨blk_cell h9 rfl, blk_cell h9 rfl, blk_free h9, blk_free h9⟩
  have HDB : Hid (doB S ((a, b), 4, p, c, s) = S.book) := by unfold Hid doB; rw [if_neg (by decide : ¬ (4 : Int) = 1), if_neg (by decide : ¬ (4 : Int) = 2)]
  have HE : Hid (doE S ((a, b), 4, p, c, s) = 0) := by unfold Hid doE; rw [if_neg (by decide : ¬ (4 : Int) = 1), if_neg (by decide : ¬ (4 : Int) = 2), if_neg (by decide : ¬ (4 : Int) = 3)]
  have HDM : Hid (doM S ((a, b), 4, p, c, s) = without S.marks p s) := by unfold Hid doM; rw [if_neg (by decide : ¬ (4 : Int) = 3), if_pos rfl]
  have hms : ∀ x ∈ S.marks, x.1.size ≤ maxLen := fun x hx => mark_small ((marksE_zero.1 hmk).2.1 x hx)
  have CC : Hid (∀ W, Below w.heap.size w W → Calls Tryz.prog 83 #[m.vm, .string p, vs] W fun e w' => ∃ v', e = .returned (.tuple #[v', .nilIface]) ∧ MksNew w.heap.size w' v' (without S.marks p s) ∧ Below W.heap.size W w') :=
    fun W hb => (Nn.join_loc m.vm S.marks p vs s W (h.marks.below hb) hms (small_place hp) (hd.below hb) h0).mono fun e w' ⟨v', h1, h2, h3⟩ => ⟨v', h1, h2.mono hb.size, h3⟩
  obtain ⟨D, hD⟩ : ∃ D, D = m.D := ⟨_, rfl⟩
  have HD : Hid (D = m.D) := hD
  obtain ⟨pb, nb, cb, hvb⟩ : ∃ p n c, m.vb = .slice p n c := by obtain ⟨p, c, e, _⟩ := h.book; exact ⟨_, _, _, e⟩
  obtain ⟨pm, nm, cm, hvm⟩ : ∃ p n c, m.vm = .slice p n c := by obtain ⟨p, c, e, _⟩ := h.marks; exact ⟨_, _, _, e⟩
  have HVB : Hid (m.vb = .slice pb nb cb) := hvb
  have HVM : Hid (m.vm = .slice pm nm cm) := hvm
  rw [hvb, hvm, ← hD] at HBLK
  rw [hvb, ← hD] at d0
  rw [hvm, ← hD] at d1
  rw [← hD]
  rw [hvm] at CC
  have e0 := keep_cell HB1.out d0
  have e1 := keep_cell HB1.out d1
  obtain ⟨o0, o1, o2, o3, o4, o5⟩ := six_new w a b 4 p c vs 34
  clear h hD hvb hvm hbk hmk hp d0 d1 hd h0 hms
  go_enter Tryz.func60, Tryz.ntmps60
  go_wp2_with fail
  go_quiet (fail)
  go_wp2_with fail
  generalize hwq : World.drewN _ _ = wq
  have HBq : Hid (Below w.heap.size w wq) := by rw [← hwq]; exact bel_drew HB1.out _
  have k0 : wq.cell? ⟨w.heap.size, 0, none⟩ = some (.int .i64 a) := by rw [← hwq]; exact o0
  have k1 : wq.cell? ⟨w.heap.size, 1, none⟩ = some (.int .i64 b) := by rw [← hwq]; exact o1
  have k2 : wq.cell? ⟨w.heap.size, 2, none⟩ = some (.int .i64 4) := by rw [← hwq]; exact o2
  have k3 : wq.cell? ⟨w.heap.size, 3, none⟩ = some (.string p) := by rw [← hwq]; exact o3
  have k4 : wq.cell? ⟨w.heap.size, 4, none⟩ = some (.int .i64 c) := by rw [← hwq]; exact o4
  have k5 : wq.cell? ⟨w.heap.size, 5, none⟩ = some vs := by rw [← hwq]; exact o5
  clear hwq e0 e1 o0 o1 o2 o3 o4 o5 HB1
  go_wp2_with fail
  refine (CC.out wq HBq.out).mono ?_
  rintro e w7 ⟨v7, rfl, hk7, hb7⟩
  obtain ⟨p7, n7, c7, rfl⟩ : ∃ p n c, v7 = .slice p n c := by obtain ⟨⟨p, c, e, _⟩, _⟩ := hk7; exact ⟨_, _, _, e⟩
  have HK7 : Hid (MksNew w.heap.size w7 (.slice p7 n7 c7) (without S.marks p s)) := hk7
  have HB7 : Hid (Below w.heap.size w w7) := bel HBq.out hb7
  clear hk7
  clear hb7
  go_wp2_with fail
  go_ret3
  refine DoPost.yes HE.out HB7.out ?_ ?_ ?_ ?_
  · rw [HDB.out, ← HVB.out]; exact HM.out.book.below HB7.out
  · rw [← HVB.out]; exact HM.out.bookG.mono fun g hg => Or.inl hg
  · rw [HDM.out]; exact HK7.out.1
  · exact (marks_in HK7.out).mono fun g hg => Or.inr hg

/- a doc's done, at every op that is right -/
theorem do_any (m : Mem) (S : Dq) (G : Nat → Prop) (a b t : Int) (p : ByteArray) (c : Int) (vs : Value) (s : List Dt) (w : World) (h : DocOk w m S G) (ho : opE ((a, b), t, p, c, s) = 0) (hd : DtsAt w vs s) (hun : kn S a < b) :
    Calls Tryz.prog 60 #[.pointer (some ⟨m.D, 0, none⟩), .agg #[.int .i64 a, .int .i64 b, .int .i64 t, .string p, .int .i64 c, vs]] w (DoPost w m S G ((a, b), t, p, c, s)) := by
  obtain ⟨e1, e2, e3, e4⟩ := opE_zero.1 ho
  simp only at e1 e2 e3 e4
  have hbk := h.inv.book
  have hmk := h.inv.marks
  have hs : ∀ x ∈ m.M, x.2.2.length ≤ 1048576 := fun x hx => Nat.le_trans (h.short x hx) (by have := h.inv.few; omega)
  have hjs : isIn (getJ m.M (a, b)) p = saw S.ops p (a, b) := by
    have := h.jn (a, b) p e1 hun
    rw [Bool.eq_iff_iff, isIn_iff]; exact this
  have ht : t = 1 ∨ t = 2 ∨ t = 3 ∨ t = 4 := by omega
  rcases ht with rfl | rfl | rfl | rfl
  · by_cases hk : Bm.writeE S.book p c = 0
    · exact do_write_ok m S G a b p c vs s w h.mem hbk hmk e3 hk
    · exact do_write_no m S G a b p c vs s w h.mem hbk hmk e3 _ rfl hk
  · by_cases hk : Bm.strikeE S.book p = 0
    · exact do_strike_ok m S G a b p c vs s w h.mem hbk hmk e3 hk
    · exact do_strike_no m S G a b p c vs s w h.mem hbk hmk e3 _ rfl hk
  · cases hsw : saw S.ops p (a, b)
    · by_cases hk : withM S.marks (p, (a, b)) = 0
      · exact do_cut_ok m S G a b p c vs s w h.mem hbk hmk e3 hs e1 (hjs.trans hsw) hsw hk
      · exact do_cut_no m S G a b p c vs s w h.mem hbk hmk e3 hs e1 (hjs.trans hsw) hsw _ rfl hk
    · exact do_cut_gone m S G a b p c vs s w h.mem hbk hmk e3 hs (hjs.trans hsw) hsw
  · have h0 : joinE S.marks p s = 0 := joinE_zero.2 ⟨seenE_zero.2 ⟨hmk, e3⟩, (lawOf_zero.1 e4).2.2.2.1, (lawOf_zero.1 e4).2.2.2.2⟩
    exact do_join_ok m S G a b p c vs s w h.mem hbk hmk e3 hd h0

end Ie
end Go.Proofs.YtgefpcchcegcpaaGreatDoor
