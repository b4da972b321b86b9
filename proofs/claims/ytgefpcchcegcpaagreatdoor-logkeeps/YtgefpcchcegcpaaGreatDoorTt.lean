/- Package log: Put and Sync. -/
import Derived.Test.YtgefpcchcegcpaaGreatDoorTs
import Derived.Test.YtgefpcchcegcpaaGreatDoorIk
namespace Go.Proofs.YtgefpcchcegcpaaGreatDoor
namespace Tt
set_option linter.unusedVariables false
set_option linter.unusedSimpArgs false
open Go.ChangeShapes Go.WideShapes Go.ChangeAt Go.RowKit Cm Ka Kb Na Om Oa Oz Oc Og Oi Hm Ia Ic Ie Ih Ij Ik Tg Th Tp Tr Ts
open La (bel bel_drew errV_zero errV_ne own_ge own_grow own_below Lies)
open Vd (Grew)

/- some bytes more behind a log's row: the log's parts -/
theorem lat_app {w w4 w9 : World} {X D : Nat} {vb v9 : Value} {tg tg' sf' : Int} {sp' : Bool} {s : Lg} {Fd F : Nat → Prop} {bs x : List UInt8} (m : LAt w X D vb tg s Fd bs) (hF : ∀ g, F g ↔ Fs X vb Fd g) (hc4 : Chg (fun g => g = X) w w4) (hb4 : LgB w4 X D vb sf' tg' sp') (hg : Grew w4 w9 vb v9) (hr : Row w9 0 v9 (bs ++ x)) :
    LgB (w9.setCell ⟨X, 1, none⟩ v9) X D v9 sf' tg' sp' ∧ Row (w9.setCell ⟨X, 1, none⟩ v9) 0 v9 (bs ++ x) ∧ DocAt (w9.setCell ⟨X, 1, none⟩ v9) D (Tg.doc s) Fd ∧ (∀ g, v9.ownBlock = some g → g ≠ X ∧ ¬ Fd g) ∧ Chg F w (w9.setCell ⟨X, 1, none⟩ v9) ∧ (∀ g, v9.ownBlock = some g → F g ∨ w.heap.size ≤ g) := by
  have hz4 := hc4.size
  have hX := m.ltX
  have hb9 : LgB w9 X D vb sf' tg' sp' := by unfold LgB; rw [hg.1.block X (by omega) (fun e => (m.ofr X e.symm).1 rfl)]; exact hb4
  have hown : ∀ g, v9.ownBlock = some g → vb.ownBlock = some g ∨ w4.heap.size ≤ g := fun g e => by
    rcases hg.2 with e9 | e9
    · exact Or.inl (by rw [← e9]; exact e)
    · exact Or.inr (e9 g e)
  have hd4 := m.doc.chg hc4 (fun g e1 e2 => m.off (e2 ▸ e1))
  have hd9 : DocAt (w9.setCell ⟨X, 1, none⟩ v9) D (Tg.doc s) Fd := by
    refine hd4.stay (fun g e => ?_) (by rw [set_size]; exact hg.1.size)
    rw [set_block _ _ _ _ (show g ≠ X from fun e9 => m.off (e9 ▸ e))]
    exact hg.1.block g (hd4.lt g e) (fun e9 => (m.ofr g e9.symm).2 e)
  refine ⟨by unfold LgB; rw [set_heap hb9]; rfl, own_stay hr fun g e => set_block _ _ _ _ (row_ne hr hb9 g e), hd9, fun g e => ?_, ?_, fun g e => ?_⟩
  · rcases hown g e with e9 | e9
    · exact m.ofr g e9
    · exact ⟨by omega, fun e8 => by have := m.doc.lt g e8; omega⟩
  · have h1 : Chg F w w4 := hc4.mono fun g e => (hF g).2 (Or.inl e)
    have h2 : Chg F w4 w9 := Chg.grown hg.1 (fun g e => (hF g).2 (Or.inr (Or.inr e)))
    exact (h1.trans h2).setCell (p := ⟨X, 1, none⟩) ((hF X).2 (Or.inl rfl)) _
  · rcases hown g e with e9 | e9
    · exact Or.inl ((hF g).2 (Or.inr (Or.inr e9)))
    · exact Or.inr (by omega)
theorem doc_put {s : Lg} {o : Ox} {r : Nat} (hs : s.stopped = false) (hn : isNew (Tg.doc s) o = true) (hf : ¬ s.fail = some 0) : Tg.doc (putS s o r) = apS (Tg.doc s) o := by
  unfold putS
  rw [hs, if_neg (by decide), hn, if_pos rfl, if_neg hf]
  unfold Tg.doc st
  rw [List.foldl_append]; rfl
theorem put_go {s : Lg} {o : Ox} {r : Nat} (hs : s.stopped = false) (hn : isNew (Tg.doc s) o = true) (hf : ¬ s.fail = some 0) : (putS s o r).safe = s.safe ∧ (putS s o r).stopped = false ∧ (putS s o r).fail = less s.fail ∧ putN s o = true ∧ putE s o = 0 := by
  unfold putS putN putE
  rw [hs, if_neg (by decide), hn, if_pos rfl, if_neg hf, if_neg (by decide), if_pos rfl, if_neg hf, decide_eq_false hf]
  exact ⟨rfl, rfl, rfl, rfl, rfl⟩
theorem put_st {s : Lg} {o : Ox} {r : Nat} (hs : s.stopped = false) (hn : isNew (Tg.doc s) o = true) (hf : s.fail = some 0) : (putS s o r).safe = s.safe ∧ (putS s o r).stopped = true ∧ (putS s o r).fail = some 0 ∧ Tg.doc (putS s o r) = Tg.doc s ∧ putN s o = false ∧ putE s o = 6 := by
  unfold putS putN putE
  rw [hs, if_neg (by decide), hn, if_pos rfl, if_pos hf, if_neg (by decide), if_pos rfl, if_pos hf, decide_eq_true hf]
  exact ⟨rfl, rfl, hf, rfl, rfl, rfl⟩
theorem put_old {s : Lg} {o : Ox} {r : Nat} (hs : s.stopped = false) (hn : isNew (Tg.doc s) o = false) : putS s o r = s ∧ putN s o = false ∧ putE s o = apE (Tg.doc s) o := by
  unfold putS putN putE
  rw [hs, if_neg (by decide), hn, if_neg (by decide), if_neg (by decide), if_neg (by decide)]
  exact ⟨rfl, rfl, rfl⟩
theorem put_dead {s : Lg} {o : Ox} {r : Nat} (hs : s.stopped = true) : putS s o r = s ∧ putN s o = false ∧ putE s o = 6 := by
  unfold putS putN putE
  rw [hs, if_pos rfl, if_pos rfl]
  exact ⟨rfl, rfl, rfl⟩
/- behind a Put that stopped -/
theorem left_half {w w4 w9 : World} {X D : Nat} {vb v9 : Value} {s : Lg} {Fd F : Nat → Prop} {bs : List UInt8} {o : Ox} (m : LAt w X D vb 0 s Fd bs) (hF : ∀ g, F g ↔ Fs X vb Fd g) (hs : s.stopped = false) (hn : isNew (Tg.doc s) o = true) (hc4 : Chg (fun g => g = X) w w4) (hb4 : LgB w4 X D vb s.safe 0 true) (hg : Grew w4 w9 vb v9) (hr : Row w9 0 v9 (bs ++ (recB o).take ((recB o).length / 2))) :
    Left' w X F (putS s o (recB o).length) (w9.setCell ⟨X, 1, none⟩ v9) := by
  obtain ⟨r1, r2, r3, r4, r5, r6⟩ := lat_app m hF hc4 hb4 hg hr
  have hf : s.fail = some 0 := by rw [m.fail]; rfl
  obtain ⟨q1, q2, q3, q4, _⟩ := put_st (r := (recB o).length) hs hn hf
  have ho := (isNew_iff.1 hn).1
  refine left_mk hF (D' := D) (vb' := v9) (tg' := 0) (Fd' := Fd) (bs' := bs ++ (recB o).take ((recB o).length / 2)) ⟨by rw [q1, q2]; exact r1, ok_put m.ok o (by have := rec_le ho; omega), m.byt.half m.ok hs hn hf, by rw [q3]; rfl, by decide, by rw [q4]; exact r3, r2, m.off, r4⟩ r5 ?_
  rintro g (e | e | e)
  · exact Or.inl ((hF g).2 (Or.inl e))
  · exact Or.inl ((hF g).2 (Or.inr (Or.inl e)))
  · exact r6 g e
/- behind a Put that went on -/
theorem left_put {w w4 w9 w6 : World} {X D : Nat} {vb v9 : Value} {tg : Int} {s : Lg} {Fd F : Nat → Prop} {bs : List UInt8} {o : Ox} {e : Ending} (m : LAt w X D vb tg s Fd bs) (hF : ∀ g, F g ↔ Fs X vb Fd g) (ht : tg ≠ 0) (hs : s.stopped = false) (hn : isNew (Tg.doc s) o = true) (hc4 : Chg (fun g => g = X) w w4) (hb4 : LgB w4 X D vb s.safe (tgN tg) false) (hg : Grew w4 w9 vb v9) (hr : Row w9 0 v9 (bs ++ recB o))
    (ha : ApPost (w9.setCell ⟨X, 1, none⟩ v9) D (Tg.doc s) Fd o e w6) :
    e = .returned (.tuple #[.bool true, .nilIface]) ∧ Left' w X F (putS s o (recB o).length) w6 := by
  obtain ⟨r1, r2, r3, r4, r5, r6⟩ := lat_app m hF hc4 hb4 hg hr
  have hf : ¬ s.fail = some 0 := by rw [m.fail, stop_fail]; exact ht
  obtain ⟨q1, q2, q3, _⟩ := put_go (r := (recB o).length) hs hn hf
  obtain ⟨e0, hkn, hfew, hdo⟩ := isNew_iff.1 hn
  have hap : apE (Tg.doc s) o = 0 := by
    unfold apE
    rw [if_neg (by simpa using e0), if_neg (by omega), if_neg (by omega), if_neg (by omega)]
    exact hdo
  obtain ⟨a1, _, Fd', a2, a3, a4⟩ := ha
  have hX : X < (w9.setCell ⟨X, 1, none⟩ v9).heap.size := (Array.getElem?_eq_some_iff.1 r1).1
  have hz := r5.size
  refine ⟨by rw [a1, hn, hap]; rfl, left_mk hF (D' := D) (vb' := v9) (tg' := tgN tg) (Fd' := Fd') (bs' := bs ++ recB o) ⟨?_, ok_put m.ok o (by have := rec_le e0; omega), m.byt.put m.ok hs hn hf, by rw [q3, m.fail, less_fail ht], ?_, by rw [doc_put hs hn hf]; exact a2, own_stay r2 fun g e => a3.block g (own_lt r2 g e).1 (r4 g e).2, fun e => ?_, fun g e => ⟨(r4 g e).1, fun e9 => ?_⟩⟩ (r5.next a3 fun g e => Or.inl ((hF g).2 (Or.inr (Or.inl e)))) ?_⟩
  · rw [q1, q2]
    unfold LgB
    rw [a3.block X hX m.off]; exact r1
  · have := m.top
    unfold tgN
    split <;> omega
  · rcases a4 X e with e9 | e9
    · exact m.off e9
    · omega
  · rcases a4 g e9 with e8 | e8
    · exact (r4 g e).2 e8
    · have := (own_lt r2 g e).1; omega
  · rintro g (e | e | e)
    · exact Or.inl ((hF g).2 (Or.inl e))
    · rcases a4 g e with e9 | e9
      · exact Or.inl ((hF g).2 (Or.inr (Or.inl e9)))
      · exact Or.inr (by omega)
    · exact r6 g e

theorem enter_apply (args : Array Value) (W : World) : (callFunc 28 args).run Tryz.prog W = .ok (.enter 28 args) W := by
  first | kernel_rfl | simp [callFunc, go_sem, Tryz.func28]
theorem chg_drew {F : Nat → Prop} {w w' : World} (h : Chg F w w') : Chg F w w'.drew := ⟨h.os, h.tape, h.output, h.size, h.block⟩
theorem ap_undrew {w w' : World} {D : Nat} {S : Dq} {F : Nat → Prop} {o : Ox} {e : Ending} (h : ApPost w.drew D S F o e w') : ApPost w D S F o e w' := by
  obtain ⟨h1, h2, F', h3, h4, h5⟩ := h
  exact ⟨h1, fun h => un_drew (h2 h), F', h3, ⟨h4.os, h4.tape, h4.output, h4.size, h4.block⟩, h5⟩
theorem put_stop (X : Nat) (s : Lg) (F : Nat → Prop) (a b t : Int) (p : ByteArray) (c : Int) (vs : Value) (w : World) (h : At w X s F) (hs : s.stopped = true) :
    Calls Tryz.prog 8 #[ptr X, .agg #[.int .i64 a, .int .i64 b, .int .i64 t, .string p, .int .i64 c, vs]] w fun e w' => e = .returned (.tuple #[.bool false, .iface 64 (.int .i64 6)]) ∧ Below w.heap.size w w' := by
  obtain ⟨D, vb, tg, Fd, bs, m, hF⟩ := h
  have hbk := m.blk
  rw [hs] at hbk
  have HB1 : Hid (Below w.heap.size w (w.alloc (.cells #[.int .i64 a, .int .i64 b, .int .i64 t, .string p, .int .i64 c, vs] 34))) := (Below.refl _ w).alloc (Nat.le_refl _) _
  have c4 := keep_cell HB1.out (blk_cell hbk (i := 4) (u := .bool true) rfl)
  clear m hF hbk hs
  go_enter Tryz.func8, Tryz.ntmps8
  go_wp2_with fail
  go_ret2
  exact ⟨rfl, HB1.out⟩
/- Put, way by way -/

set_option maxRecDepth 100000 in
set_option maxHeartbeats 4000000 in
theorem put_no (X D : Nat) (vb : Value) (tg : Int) (s : Lg) (Fd F : Nat → Prop) (bs : List UInt8) (a b t : Int) (p : ByteArray) (c : Int) (vs : Value) (sd : List Dt) (w : World) (m : LAt w X D vb tg s Fd bs) (hF : ∀ g, F g ↔ Fs X vb Fd g) (hf : Fit s) (hd : DtsAt w vs sd) (hoff : In (fun g => ¬ F g) vs) (hp : p.size ≤ maxLen) (hs : s.stopped = false) (hn : isNew (Tg.doc s) ((a, b), t, p, c, sd) = false) (k : Int) (hk : apE (Tg.doc s) ((a, b), t, p, c, sd) = k) (h0 : k ≠ 0) :
    Calls Tryz.prog 8 #[ptr X, .agg #[.int .i64 a, .int .i64 b, .int .i64 t, .string p, .int .i64 c, vs]] w (fun e w' => e = .returned (.tuple #[.bool false, .iface 64 (.int .i64 k)]) ∧ Below w.heap.size w w') := by
  have HM := Hid.mk' m
  have HF := Hid.mk' hF
  have HB1 : Hid (Below w.heap.size w (w.alloc (.cells #[.int .i64 a, .int .i64 b, .int .i64 t, .string p, .int .i64 c, vs] 34))) := (Below.refl _ w).alloc (Nat.le_refl _) _
  obtain ⟨o0, o1, o2, o3, o4, o5⟩ := six_new w a b t p c vs 34
  have hbk := m.blk
  rw [hs] at hbk
  have c0 := keep_cell HB1.out (blk_cell hbk (i := 0) (u := .pointer (some ⟨D, 0, none⟩)) rfl)
  have c4 := keep_cell HB1.out (blk_cell hbk (i := 4) (u := .bool false) rfl)
  have CW : Hid (∀ W, Below w.heap.size w W → Calls Tryz.prog 26 #[.pointer (some ⟨D, 0, none⟩), .agg #[.int .i64 a, .int .i64 b, .int .i64 t, .string p, .int .i64 c, vs]] W fun e w' => e = .returned (.tuple #[.bool false, .iface 64 (.int .i64 k)]) ∧ Below W.heap.size W w') := fun W hb => by
    have h9 := would_any D (Tg.doc s) Fd a b t p c vs sd W (m.doc.below hb) (hd.below hb) hp
    rw [hn, hk, errV_ne h0] at h9
    exact h9

  clear m hF hf hd hoff hp hs hbk hn hk h0
  go_enter Tryz.func8, Tryz.ntmps8
  go_wp2_with fail
  go_region_held3 (fun W => W.cell? ⟨X, 0, none⟩ = some (.pointer (some ⟨D, 0, none⟩)) ∧ W.cell? ⟨w.heap.size, 0, none⟩ = some (.int .i64 a) ∧ W.cell? ⟨w.heap.size, 1, none⟩ = some (.int .i64 b) ∧ W.cell? ⟨w.heap.size, 2, none⟩ = some (.int .i64 t) ∧ W.cell? ⟨w.heap.size, 3, none⟩ = some (.string p) ∧ W.cell? ⟨w.heap.size, 4, none⟩ = some (.int .i64 c) ∧ W.cell? ⟨w.heap.size, 5, none⟩ = some (vs)) (first | (go_keep; done) | (refine ⟨keep_cell hb7 ?_, keep_cell hb7 ?_, keep_cell hb7 ?_, keep_cell hb7 ?_, keep_cell hb7 ?_, keep_cell hb7 ?_, keep_cell hb7 ?_⟩ <;> (go_split_ands; assumption))) (first
    | (go_at_call 26; refine (CW.out _ HB1.out.drew).mono ?_; rintro e w2 ⟨rfl, hb7⟩; have HB2 : Hid (Below w.heap.size w w2) := bel HB1.out.drew hb7; have HS2 : Hid (Six w2 w.heap.size a b t p c vs) := (six_new w a b t p c vs 34).below (un_drew hb7)))
  all_goals
    clear hb7
    go_wp2_with fail
    go_ret2
    exact ⟨rfl, HB2.out⟩

set_option maxRecDepth 100000 in
set_option maxHeartbeats 4000000 in
theorem put_same (X D : Nat) (vb : Value) (tg : Int) (s : Lg) (Fd F : Nat → Prop) (bs : List UInt8) (a b t : Int) (p : ByteArray) (c : Int) (vs : Value) (sd : List Dt) (w : World) (m : LAt w X D vb tg s Fd bs) (hF : ∀ g, F g ↔ Fs X vb Fd g) (hf : Fit s) (hd : DtsAt w vs sd) (hoff : In (fun g => ¬ F g) vs) (hp : p.size ≤ maxLen) (hs : s.stopped = false) (hn : isNew (Tg.doc s) ((a, b), t, p, c, sd) = false) (hk : apE (Tg.doc s) ((a, b), t, p, c, sd) = 0) :
    Calls Tryz.prog 8 #[ptr X, .agg #[.int .i64 a, .int .i64 b, .int .i64 t, .string p, .int .i64 c, vs]] w (fun e w' => e = .returned (.tuple #[.bool false, .nilIface]) ∧ Below w.heap.size w w') := by
  have HM := Hid.mk' m
  have HF := Hid.mk' hF
  have HB1 : Hid (Below w.heap.size w (w.alloc (.cells #[.int .i64 a, .int .i64 b, .int .i64 t, .string p, .int .i64 c, vs] 34))) := (Below.refl _ w).alloc (Nat.le_refl _) _
  obtain ⟨o0, o1, o2, o3, o4, o5⟩ := six_new w a b t p c vs 34
  have hbk := m.blk
  rw [hs] at hbk
  have c0 := keep_cell HB1.out (blk_cell hbk (i := 0) (u := .pointer (some ⟨D, 0, none⟩)) rfl)
  have c4 := keep_cell HB1.out (blk_cell hbk (i := 4) (u := .bool false) rfl)
  have CW : Hid (∀ W, Below w.heap.size w W → Calls Tryz.prog 26 #[.pointer (some ⟨D, 0, none⟩), .agg #[.int .i64 a, .int .i64 b, .int .i64 t, .string p, .int .i64 c, vs]] W fun e w' => e = .returned (.tuple #[.bool false, .nilIface]) ∧ Below W.heap.size W w') := fun W hb => by
    have h9 := would_any D (Tg.doc s) Fd a b t p c vs sd W (m.doc.below hb) (hd.below hb) hp
    rw [hn, hk, errV_zero] at h9
    exact h9

  clear m hF hf hd hoff hp hs hbk hn hk
  go_enter Tryz.func8, Tryz.ntmps8
  go_wp2_with fail
  go_region_held3 (fun W => W.cell? ⟨X, 0, none⟩ = some (.pointer (some ⟨D, 0, none⟩)) ∧ W.cell? ⟨w.heap.size, 0, none⟩ = some (.int .i64 a) ∧ W.cell? ⟨w.heap.size, 1, none⟩ = some (.int .i64 b) ∧ W.cell? ⟨w.heap.size, 2, none⟩ = some (.int .i64 t) ∧ W.cell? ⟨w.heap.size, 3, none⟩ = some (.string p) ∧ W.cell? ⟨w.heap.size, 4, none⟩ = some (.int .i64 c) ∧ W.cell? ⟨w.heap.size, 5, none⟩ = some (vs)) (first | (go_keep; done) | (refine ⟨keep_cell hb7 ?_, keep_cell hb7 ?_, keep_cell hb7 ?_, keep_cell hb7 ?_, keep_cell hb7 ?_, keep_cell hb7 ?_, keep_cell hb7 ?_⟩ <;> (go_split_ands; assumption))) (first
    | (go_at_call 26; refine (CW.out _ HB1.out.drew).mono ?_; rintro e w2 ⟨rfl, hb7⟩; have HB2 : Hid (Below w.heap.size w w2) := bel HB1.out.drew hb7; have HS2 : Hid (Six w2 w.heap.size a b t p c vs) := (six_new w a b t p c vs 34).below (un_drew hb7)))
  all_goals
    clear hb7
    go_wp2_with fail
    go_ret2
    exact ⟨rfl, HB2.out⟩

set_option maxRecDepth 100000 in
set_option maxHeartbeats 4000000 in
theorem put_half (X D : Nat) (vb : Value) (tg : Int) (s : Lg) (Fd F : Nat → Prop) (bs : List UInt8) (a b t : Int) (p : ByteArray) (c : Int) (vs : Value) (sd : List Dt) (w : World) (m : LAt w X D vb tg s Fd bs) (hF : ∀ g, F g ↔ Fs X vb Fd g) (hf : Fit s) (hd : DtsAt w vs sd) (hoff : In (fun g => ¬ F g) vs) (hp : p.size ≤ maxLen) (hs : s.stopped = false) (h00 : tg = 0) (hn : isNew (Tg.doc s) ((a, b), t, p, c, sd) = true) (hk : apE (Tg.doc s) ((a, b), t, p, c, sd) = 0) :
    Calls Tryz.prog 8 #[ptr X, .agg #[.int .i64 a, .int .i64 b, .int .i64 t, .string p, .int .i64 c, vs]] w (fun e w' => e = .returned (.tuple #[.bool false, .iface 64 (.int .i64 6)]) ∧ Left' w X F (putS s ((a, b), t, p, c, sd) (recB ((a, b), t, p, c, sd)).length) w') := by
  subst h00
  have HM := Hid.mk' m
  have HF := Hid.mk' hF
  have HB1 : Hid (Below w.heap.size w (w.alloc (.cells #[.int .i64 a, .int .i64 b, .int .i64 t, .string p, .int .i64 c, vs] 34))) := (Below.refl _ w).alloc (Nat.le_refl _) _
  obtain ⟨o0, o1, o2, o3, o4, o5⟩ := six_new w a b t p c vs 34
  have hbk := m.blk
  rw [hs] at hbk
  have c0 := keep_cell HB1.out (blk_cell hbk (i := 0) (u := .pointer (some ⟨D, 0, none⟩)) rfl)
  have c4 := keep_cell HB1.out (blk_cell hbk (i := 4) (u := .bool false) rfl)
  have CW : Hid (∀ W, Below w.heap.size w W → Calls Tryz.prog 26 #[.pointer (some ⟨D, 0, none⟩), .agg #[.int .i64 a, .int .i64 b, .int .i64 t, .string p, .int .i64 c, vs]] W fun e w' => e = .returned (.tuple #[.bool true, .nilIface]) ∧ Below W.heap.size W w') := fun W hb => by
    have h9 := would_any D (Tg.doc s) Fd a b t p c vs sd W (m.doc.below hb) (hd.below hb) hp
    rw [hn, hk, errV_zero] at h9
    exact h9
  have HS := Hid.mk' hs
  have HN := Hid.mk' hn
  have h0 := (isNew_iff.1 hn).1
  have CR : Hid (∀ W, Below w.heap.size w W → Calls Tryz.prog 27 #[.agg #[.int .i64 a, .int .i64 b, .int .i64 t, .string p, .int .i64 c, vs]] W fun e w' => ∃ v, e = .returned v ∧ Row w' W.heap.size v (recB ((a, b), t, p, c, sd)) ∧ Below W.heap.size W w') := fun W hb => record_any a b t p c vs sd W (hd.below hb) h0
  have hrl := rec_le h0
  obtain ⟨p0, n0, q0, hvb, hn0⟩ := m.row.shape
  subst hvb
  have HBL : Hid (bs.length ≤ 100000000) := by rw [Hid, m.byt.len]; exact hf.1
  have HXL := Hid.mk' m.ltX
  have HBK : Hid (∀ W, Below w.heap.size w W → LgB W X D (.slice p0 n0 q0) s.safe 0 false) := fun W hb => keep_heap hb hbk
  have HIN : Hid (∀ x n cc, vs = .slice (some x) n cc → 0 < n → x.block < w.heap.size ∧ ¬ F x.block) := fun x n cc e hn => ⟨by
      obtain ⟨q, c2, hv, hin, _⟩ := hd
      rw [e] at hv
      injection hv with e1 e2 e3
      rcases hin with e0 | ⟨bb, oo, hp9, hcs⟩
      · rw [e0] at e2; simp at e2; omega
      · rw [hp9] at e1; injection e1 with e1; rw [e1]; exact (hcs 0 (by omega)).lt, hoff x n cc e hn⟩
  have HDS : Hid (∀ W, Chg F w W → DtsAt W vs sd) := fun W hc => dots_stay hd (G := fun g => g < w.heap.size ∧ ¬ F g) (fun x n cc e hn => HIN.out x n cc e hn) (hc.stay fun g hg => hg)
  have HP := Hid.mk' hp
  obtain ⟨n, hnr⟩ : ∃ n, n = (recB ((a, b), t, p, c, sd)).length := ⟨_, rfl⟩
  have HNR := Hid.mk' hnr
  rw [← hnr] at hrl
  obtain ⟨hr8, hr142⟩ := hrl
  obtain ⟨sf, hsf⟩ : ∃ sf : Int, sf = s.safe := ⟨_, rfl⟩
  have HSF := Hid.mk' hsf
  rw [← hsf] at HBK
  clear m hF hf hd hoff hp hs hbk hn hk h0 hnr hsf hn0
  go_enter Tryz.func8, Tryz.ntmps8
  go_wp2_with fail
  go_region_held3 (fun W => W.cell? ⟨X, 0, none⟩ = some (.pointer (some ⟨D, 0, none⟩)) ∧ W.cell? ⟨w.heap.size, 0, none⟩ = some (.int .i64 a) ∧ W.cell? ⟨w.heap.size, 1, none⟩ = some (.int .i64 b) ∧ W.cell? ⟨w.heap.size, 2, none⟩ = some (.int .i64 t) ∧ W.cell? ⟨w.heap.size, 3, none⟩ = some (.string p) ∧ W.cell? ⟨w.heap.size, 4, none⟩ = some (.int .i64 c) ∧ W.cell? ⟨w.heap.size, 5, none⟩ = some (vs)) (first | (go_keep; done) | (refine ⟨keep_cell hb7 ?_, keep_cell hb7 ?_, keep_cell hb7 ?_, keep_cell hb7 ?_, keep_cell hb7 ?_, keep_cell hb7 ?_, keep_cell hb7 ?_⟩ <;> (go_split_ands; assumption))) (first
    | (go_at_call 26; refine (CW.out _ HB1.out.drew).mono ?_; rintro e w2 ⟨rfl, hb7⟩; have HB2 : Hid (Below w.heap.size w w2) := bel HB1.out.drew hb7; have HS2 : Hid (Six w2 w.heap.size a b t p c vs) := (six_new w a b t p c vs 34).below (un_drew hb7)))
  all_goals
    obtain ⟨o0, o1, o2, o3, o4, o5⟩ := HS2.out
    clear hb7 CW
    go_wp2_with fail
    refine (CR.out w2 HB2.out).mono ?_
    rintro e w3 ⟨v3, rfl, hr3, hb3⟩
    obtain ⟨g3, q3, rfl, hg3, hg3l, hq3, hcel⟩ := row_some hr3 (by intro e; have := HNR.out; rw [e] at this; simp at this; omega)
    rw [← HNR.out] at hcel hq3
    have HB3 : Hid (Below w.heap.size w w3) := bel HB2.out hb3
    have HS3 : Hid (Six w3 w.heap.size a b t p c vs) := HS2.out.below hb3
    have HG3 : Hid (w.heap.size ≤ g3 ∧ g3 < w3.heap.size) := ⟨Nat.le_trans HB2.out.size hg3, hg3l⟩
    have HCE := Hid.mk' hcel
    rw [← HNR.out]
    clear hr3 hb3 hcel hg3 hg3l CR
    have HK3 := Hid.mk' (HBK.out w3 HB3.out)
    go_wp2_with fail
    refine (stops_yes X D (.slice p0 n0 q0) sf w3 HK3.out).mono ?_
    rintro e w4 ⟨rfl, hw4⟩
    have HC4 : Hid (Chg (fun g => g = X) w w4) := by rw [Hid, hw4]; exact (Chg.ofBelow HB3.out (fun g => g = X)).setCell (p := ⟨X, 4, none⟩) rfl _
    have HK4 : Hid (LgB w4 X D (.slice p0 n0 q0) sf 0 true) := by rw [Hid, hw4]; unfold LgB; rw [set_heap HK3.out]; rfl
    have HZ4 : Hid (w4.heap.size = w3.heap.size) := by rw [Hid, hw4, set_size]
    have HR4 : Hid (Row w4.drew 0 (.slice p0 n0 q0) bs) := own_stay HM.out.row fun g e => HC4.out.block g (own_lt HM.out.row g e).1 (HM.out.ofr g e).1
    have HW4 : Hid (w4.heap[g3]? = w3.heap[g3]?) := by rw [Hid, hw4]; exact set_block _ _ _ _ (by show g3 ≠ X; have := HG3.out.1; have := HXL.out; omega)
    have HNW : Hid (∀ j, j < n / 2 → w4.drew.cell? ⟨g3, j, none⟩ = some (.int .u8 ((((recB ((a, b), t, p, c, sd)).take (n / 2)).getD j 0).toNat : Int))) := fun j hj => by
      have h9 := HCE.out w4 HW4.out j (by omega)
      rw [List.getD_eq_getElem?_getD, List.getElem?_take_of_lt hj, ← List.getD_eq_getElem?_getD]
      exact h9
    have HTL : Hid (((recB ((a, b), t, p, c, sd)).take (n / 2)).length = n / 2) := by rw [Hid, List.length_take, ← HNR.out]; omega
    have hq : (n : Int).tdiv 2 = ((n / 2 : Nat) : Int) := by rw [Int.tdiv_eq_ediv_of_nonneg (by omega)]; omega
    have hq2 : (n : Int) / 2 = ((n / 2 : Nat) : Int) := by omega
    have d1 := blk_cell HK4.out (i := 1) (u := .slice p0 n0 q0) rfl
    have hl2 : n / 2 ≤ n := by omega
    obtain ⟨k2, hk2⟩ : ∃ k2, k2 = n / 2 := ⟨_, rfl⟩
    have HK2 := Hid.mk' hk2
    rw [← hk2] at hq hq2 hl2 HNW HTL
    have hk4 : 4 ≤ k2 := by omega
    have hk5 : k2 ≤ q3 := by omega
    have hwk : IntKind.i64.wrap (k2 : Int) = k2 := by rw [IntKind.wrap_i64]; omega
    have HBN : Hid (∀ W, W.heap[X]? = w4.heap[X]? → LgB W X D (.slice p0 n0 q0) sf 0 true) := fun W hW => hW.trans HK4.out
    have HXN : Hid (some X ≠ (Value.slice p0 n0 q0).ownBlock) := fun e => (HM.out.ofr X e.symm).1 rfl
    have HXL4 : Hid (X < w4.heap.size) := (Array.getElem?_eq_some_iff.1 HK4.out).1
    clear hw4 HK3 o0 o1 o2 o3 o4 o5 hk2
    go_wp2_with fail
    go_region_law (first
      | (refine step_putB (by rfl) (.tmp 38) (.tmp 43) (by rfl) 0 (.slice p0 n0 q0) bs ((recB ((a, b), t, p, c, sd)).take k2) (by rfl) g3 k2 q3 (by rfl) HTL.out (by have := HBL.out; omega) HR4.out (Nat.zero_le _) HNW.out ?_; intro v9 w9 hr9 hg9; obtain ⟨p9, n9, c9, rfl, _⟩ := hr9.shape; have hb9 := HBN.out w9 (hg9.1.block X HXL4.out HXN.out); have q9 := blk_cell hb9 (i := 1) (u := .slice p0 n0 q0) rfl; have fq9 := blk_free hb9 (i := 1); have HLF : Hid (Left' w X F (putS s ((a, b), t, p, c, sd) (recB ((a, b), t, p, c, sd)).length) (w9.setCell ⟨X, 1, none⟩ (.slice p9 n9 c9))) := left_half HM.out HF.out HS.out HN.out HC4.out (HSF.out ▸ HK4.out) (undrew_grew hg9) (by rw [HK2.out, HNR.out] at hr9; exact hr9); clear hr9 hg9 hb9))
    all_goals
      clear d1
      go_wp2_with fail
      go_ret2
      exact ⟨rfl, HLF.out⟩

set_option maxRecDepth 100000 in
set_option maxHeartbeats 4000000 in
theorem put_yes (X D : Nat) (vb : Value) (tg : Int) (s : Lg) (Fd F : Nat → Prop) (bs : List UInt8) (a b t : Int) (p : ByteArray) (c : Int) (vs : Value) (sd : List Dt) (w : World) (m : LAt w X D vb tg s Fd bs) (hF : ∀ g, F g ↔ Fs X vb Fd g) (hf : Fit s) (hd : DtsAt w vs sd) (hoff : In (fun g => ¬ F g) vs) (hp : p.size ≤ maxLen) (hs : s.stopped = false) (h00 : tg ≠ 0) (hn : isNew (Tg.doc s) ((a, b), t, p, c, sd) = true) (hk : apE (Tg.doc s) ((a, b), t, p, c, sd) = 0) :
    Calls Tryz.prog 8 #[ptr X, .agg #[.int .i64 a, .int .i64 b, .int .i64 t, .string p, .int .i64 c, vs]] w (fun e w' => e = .returned (.tuple #[.bool true, .nilIface]) ∧ Left' w X F (putS s ((a, b), t, p, c, sd) (recB ((a, b), t, p, c, sd)).length) w') := by
  have HM := Hid.mk' m
  have HF := Hid.mk' hF
  have HB1 : Hid (Below w.heap.size w (w.alloc (.cells #[.int .i64 a, .int .i64 b, .int .i64 t, .string p, .int .i64 c, vs] 34))) := (Below.refl _ w).alloc (Nat.le_refl _) _
  obtain ⟨o0, o1, o2, o3, o4, o5⟩ := six_new w a b t p c vs 34
  have hbk := m.blk
  rw [hs] at hbk
  have c0 := keep_cell HB1.out (blk_cell hbk (i := 0) (u := .pointer (some ⟨D, 0, none⟩)) rfl)
  have c4 := keep_cell HB1.out (blk_cell hbk (i := 4) (u := .bool false) rfl)
  have CW : Hid (∀ W, Below w.heap.size w W → Calls Tryz.prog 26 #[.pointer (some ⟨D, 0, none⟩), .agg #[.int .i64 a, .int .i64 b, .int .i64 t, .string p, .int .i64 c, vs]] W fun e w' => e = .returned (.tuple #[.bool true, .nilIface]) ∧ Below W.heap.size W w') := fun W hb => by
    have h9 := would_any D (Tg.doc s) Fd a b t p c vs sd W (m.doc.below hb) (hd.below hb) hp
    rw [hn, hk, errV_zero] at h9
    exact h9
  have HS := Hid.mk' hs
  have HN := Hid.mk' hn
  have h0 := (isNew_iff.1 hn).1
  have CR : Hid (∀ W, Below w.heap.size w W → Calls Tryz.prog 27 #[.agg #[.int .i64 a, .int .i64 b, .int .i64 t, .string p, .int .i64 c, vs]] W fun e w' => ∃ v, e = .returned v ∧ Row w' W.heap.size v (recB ((a, b), t, p, c, sd)) ∧ Below W.heap.size W w') := fun W hb => record_any a b t p c vs sd W (hd.below hb) h0
  have hrl := rec_le h0
  obtain ⟨p0, n0, q0, hvb, hn0⟩ := m.row.shape
  subst hvb
  have HBL : Hid (bs.length ≤ 100000000) := by rw [Hid, m.byt.len]; exact hf.1
  have HXL := Hid.mk' m.ltX
  have HBK : Hid (∀ W, Below w.heap.size w W → LgB W X D (.slice p0 n0 q0) s.safe tg false) := fun W hb => keep_heap hb hbk
  have HIN : Hid (∀ x n cc, vs = .slice (some x) n cc → 0 < n → x.block < w.heap.size ∧ ¬ F x.block) := fun x n cc e hn => ⟨by
      obtain ⟨q, c2, hv, hin, _⟩ := hd
      rw [e] at hv
      injection hv with e1 e2 e3
      rcases hin with e0 | ⟨bb, oo, hp9, hcs⟩
      · rw [e0] at e2; simp at e2; omega
      · rw [hp9] at e1; injection e1 with e1; rw [e1]; exact (hcs 0 (by omega)).lt, hoff x n cc e hn⟩
  have HDS : Hid (∀ W, Chg F w W → DtsAt W vs sd) := fun W hc => dots_stay hd (G := fun g => g < w.heap.size ∧ ¬ F g) (fun x n cc e hn => HIN.out x n cc e hn) (hc.stay fun g hg => hg)
  have HP := Hid.mk' hp
  obtain ⟨n, hnr⟩ : ∃ n, n = (recB ((a, b), t, p, c, sd)).length := ⟨_, rfl⟩
  have HNR := Hid.mk' hnr
  rw [← hnr] at hrl
  obtain ⟨hr8, hr142⟩ := hrl
  obtain ⟨sf, hsf⟩ : ∃ sf : Int, sf = s.safe := ⟨_, rfl⟩
  have HSF := Hid.mk' hsf
  rw [← hsf] at HBK
  have HTG := Hid.mk' h00
  have HTT := Hid.mk' m.top
  have HAP : Hid (∀ W, DocAt W D (Tg.doc s) Fd → DtsAt W vs sd → Calls Tryz.prog 28 #[.pointer (some ⟨D, 0, none⟩), .agg #[.int .i64 a, .int .i64 b, .int .i64 t, .string p, .int .i64 c, vs]] W fun e w' => ∃ v, e = .returned v ∧ ApPost W D (Tg.doc s) Fd ((a, b), t, p, c, sd) (.returned v) w') := fun W h1 h2 => (apply_any D (Tg.doc s) Fd a b t p c vs sd W h1 h2 (hoff.mono fun g hg e => hg ((hF g).2 (Or.inr (Or.inl e)))) hp).mono fun e w' h => ⟨_, h.1, by rw [← h.1]; exact h⟩
  clear m hF hf hd hoff hp hs hbk hn hk h0 hnr hsf hn0 h00
  go_enter Tryz.func8, Tryz.ntmps8
  go_wp2_with fail
  go_region_held3 (fun W => W.cell? ⟨X, 0, none⟩ = some (.pointer (some ⟨D, 0, none⟩)) ∧ W.cell? ⟨w.heap.size, 0, none⟩ = some (.int .i64 a) ∧ W.cell? ⟨w.heap.size, 1, none⟩ = some (.int .i64 b) ∧ W.cell? ⟨w.heap.size, 2, none⟩ = some (.int .i64 t) ∧ W.cell? ⟨w.heap.size, 3, none⟩ = some (.string p) ∧ W.cell? ⟨w.heap.size, 4, none⟩ = some (.int .i64 c) ∧ W.cell? ⟨w.heap.size, 5, none⟩ = some (vs)) (first | (go_keep; done) | (refine ⟨keep_cell hb7 ?_, keep_cell hb7 ?_, keep_cell hb7 ?_, keep_cell hb7 ?_, keep_cell hb7 ?_, keep_cell hb7 ?_, keep_cell hb7 ?_⟩ <;> (go_split_ands; assumption))) (first
    | (go_at_call 26; refine (CW.out _ HB1.out.drew).mono ?_; rintro e w2 ⟨rfl, hb7⟩; have HB2 : Hid (Below w.heap.size w w2) := bel HB1.out.drew hb7; have HS2 : Hid (Six w2 w.heap.size a b t p c vs) := (six_new w a b t p c vs 34).below (un_drew hb7)))
  all_goals
    obtain ⟨o0, o1, o2, o3, o4, o5⟩ := HS2.out
    clear hb7 CW
    go_wp2_with fail
    refine (CR.out w2 HB2.out).mono ?_
    rintro e w3 ⟨v3, rfl, hr3, hb3⟩
    obtain ⟨g3, q3, rfl, hg3, hg3l, hq3, hcel⟩ := row_some hr3 (by intro e; have := HNR.out; rw [e] at this; simp at this; omega)
    rw [← HNR.out] at hcel hq3
    have HB3 : Hid (Below w.heap.size w w3) := bel HB2.out hb3
    have HS3 : Hid (Six w3 w.heap.size a b t p c vs) := HS2.out.below hb3
    have HG3 : Hid (w.heap.size ≤ g3 ∧ g3 < w3.heap.size) := ⟨Nat.le_trans HB2.out.size hg3, hg3l⟩
    have HCE := Hid.mk' hcel
    rw [← HNR.out]
    clear hr3 hb3 hcel hg3 hg3l CR
    have HK3 := Hid.mk' (HBK.out w3 HB3.out)
    go_wp2_with fail
    refine (stops_any X D (.slice p0 n0 q0) sf tg w3 HK3.out HTT.out).mono ?_
    rintro e w4 ⟨rfl, hk4, hc4⟩
    have hst : stB tg = false := decide_eq_false HTG.out
    rw [hst] at hk4 ⊢
    have HC4 : Hid (Chg (fun g => g = X) w w4) := (Chg.ofBelow HB3.out (fun g => g = X)).trans hc4
    have HK4 := Hid.mk' hk4
    have HR4 : Hid (Row w4 0 (.slice p0 n0 q0) bs) := own_stay HM.out.row fun g e => HC4.out.block g (own_lt HM.out.row g e).1 (HM.out.ofr g e).1
    have HW4 : Hid (w4.heap[g3]? = w3.heap[g3]?) := hc4.block g3 HG3.out.2 (by show ¬ g3 = X; have := HG3.out.1; have := HXL.out; omega)
    have HNW : Hid (∀ j, j < n → w4.cell? ⟨g3, j, none⟩ = some (.int .u8 (((recB ((a, b), t, p, c, sd)).getD j 0).toNat : Int))) := HCE.out w4 HW4.out
    have HS4 : Hid (Six w4 w.heap.size a b t p c vs) := six_same HS3.out (hc4.block _ (six_lt HS3.out) (by show ¬ w.heap.size = X; have := HXL.out; omega))
    have HBN : Hid (∀ W, W.heap[X]? = w4.heap[X]? → LgB W X D (.slice p0 n0 q0) sf (tgN tg) false) := fun W hW => hW.trans HK4.out
    have HXN : Hid (some X ≠ (Value.slice p0 n0 q0).ownBlock) := fun e => (HM.out.ofr X e.symm).1 rfl
    have HXL4 : Hid (X < w4.heap.size) := (Array.getElem?_eq_some_iff.1 HK4.out).1
    have HWL : Hid (some w.heap.size ≠ (Value.slice p0 n0 q0).ownBlock) := fun e => by have := (own_lt HM.out.row _ e.symm).1; omega
    have d1 := blk_cell HK4.out (i := 1) (u := .slice p0 n0 q0) rfl
    clear hk4 hc4 hst HK3 o0 o1 o2 o3 o4 o5
    go_wp2_with (at_builtin; refine wpList_putG w4 rfl (.tmp 52) (.tmp 53) rfl 0 (.slice p0 n0 q0) bs (recB ((a, b), t, p, c, sd)) rfl g3 n q3 rfl HNR.out.symm (by have := HBL.out; omega) HR4.out (Nat.zero_le _) HNW.out ?_; intro v9 w9 hr9 hg9; obtain ⟨p9, n9, c9, rfl, _⟩ := hr9.shape; have hb9 := HBN.out w9 (hg9.1.block X HXL4.out HXN.out); have q9 := blk_cell hb9 (i := 1) (u := .slice p0 n0 q0) rfl; have fq9 := blk_free hb9 (i := 1); have HR9 := Hid.mk' hr9; have HG9 := Hid.mk' hg9; clear hr9 hg9 hb9)
    have HLA := Hid.mk' (lat_app HM.out HF.out HC4.out HK4.out HG9.out HR9.out)
    have HS9 : Hid (Six (w9.setCell ⟨X, 1, none⟩ (.slice p9 n9 c9)) w.heap.size a b t p c vs) := six_same HS4.out (by rw [set_block _ _ _ _ (show w.heap.size ≠ X by have := HXL.out; omega)]; exact HG9.out.1.block _ (six_lt HS4.out) HWL.out)
    have CA := Hid.mk' (HAP.out (w9.setCell ⟨X, 1, none⟩ (.slice p9 n9 c9)).drew (HLA.out.2.2.1.stay (fun g _ => rfl) (Nat.le_refl _)) (HDS.out _ (chg_drew HLA.out.2.2.2.2.1)))
    have CB : Hid (Calls Tryz.prog 28 #[.pointer (some ⟨D, 0, none⟩), .agg #[.int .i64 a, .int .i64 b, .int .i64 t, .string p, .int .i64 c, vs]] (w9.setCell ⟨X, 1, none⟩ (.slice p9 n9 c9)).drew fun e w' => ∃ v, e = .returned v ∧ v = .tuple #[.bool true, .nilIface] ∧ Left' w X F (putS s ((a, b), t, p, c, sd) (recB ((a, b), t, p, c, sd)).length) w') := CA.out.mono fun e w6 ⟨v, he, h⟩ => by
      obtain ⟨e1, e2⟩ := left_put HM.out HF.out HTG.out HS.out HN.out HC4.out (HSF.out ▸ HK4.out) HG9.out HR9.out (ap_undrew h)
      exact ⟨_, he.trans e1, rfl, e2⟩
    have e0 := blk_cell HLA.out.1 (i := 0) (u := .pointer (some ⟨D, 0, none⟩)) rfl
    generalize hw5 : w9.setCell ⟨X, 1, none⟩ (.slice p9 n9 c9) = w5 at HS9 CB e0 ⊢
    obtain ⟨o0, o1, o2, o3, o4, o5⟩ := HS9.out
    clear hw5 q9 fq9 d1 HLA CA
    go_region_law (first
      | (refine Ig.step_call2 (R := fun v w' => v = .tuple #[.bool true, .nilIface] ∧ Left' w X F (putS s ((a, b), t, p, c, sd) (recB ((a, b), t, p, c, sd)).length) w') (by rfl) 28 (.tmp 60) (.tmp 61) _ _ (by rfl) _ _ (by rfl) (by rfl) enter_apply CB.out ?_; rintro v6 w6 ⟨rfl, hl6⟩; have HL6 := Hid.mk' hl6; clear hl6))
    all_goals
      go_wp2_with fail
      go_ret2
      exact ⟨rfl, HL6.out⟩

theorem put_any (X : Nat) (s : Lg) (F : Nat → Prop) (a b t : Int) (p : ByteArray) (c : Int) (vs : Value) (sd : List Dt) (w : World) (h : At w X s F) (hf : Fit s) (hd : DtsAt w vs sd) (hoff : In (fun g => ¬ F g) vs) (hp : p.size ≤ maxLen) :
    Calls Tryz.prog 8 #[ptr X, .agg #[.int .i64 a, .int .i64 b, .int .i64 t, .string p, .int .i64 c, vs]] w fun e w' => e = .returned (.tuple #[.bool (putN s ((a, b), t, p, c, sd)), errV (putE s ((a, b), t, p, c, sd))]) ∧ Left' w X F (putS s ((a, b), t, p, c, sd) (recB ((a, b), t, p, c, sd)).length) w' := by
  cases hs : s.stopped
  · obtain ⟨D, vb, tg, Fd, bs, m, hF⟩ := h
    cases hn : isNew (Tg.doc s) ((a, b), t, p, c, sd)
    · obtain ⟨q1, q2, q3⟩ := put_old (r := (recB ((a, b), t, p, c, sd)).length) hs hn
      rw [q1, q2, q3]
      by_cases hk : apE (Tg.doc s) ((a, b), t, p, c, sd) = 0
      · rw [hk, errV_zero]
        refine (put_same X D vb tg s Fd F bs a b t p c vs sd w m hF hf hd hoff hp hs hn hk).mono ?_
        rintro e w' ⟨he, hb⟩
        exact ⟨he, left_same ⟨D, vb, tg, Fd, bs, m, hF⟩ hb⟩
      · rw [errV_ne hk]
        refine (put_no X D vb tg s Fd F bs a b t p c vs sd w m hF hf hd hoff hp hs hn _ rfl hk).mono ?_
        rintro e w' ⟨he, hb⟩
        exact ⟨he, left_same ⟨D, vb, tg, Fd, bs, m, hF⟩ hb⟩
    · have hk : apE (Tg.doc s) ((a, b), t, p, c, sd) = 0 := by
        obtain ⟨e0, hkn, hfew, hdo⟩ := isNew_iff.1 hn
        simp only at hkn
        unfold apE
        rw [if_neg (by simpa using e0), if_neg (by simp only; omega), if_neg (by simp only; omega), if_neg (by omega)]
        exact hdo
      by_cases h0 : tg = 0
      · have hfl : s.fail = some 0 := by rw [m.fail, stop_fail]; exact h0
        obtain ⟨_, _, _, _, q2, q3⟩ := put_st (r := 0) hs hn hfl
        rw [q2, q3, errV_ne (by decide)]
        exact put_half X D vb tg s Fd F bs a b t p c vs sd w m hF hf hd hoff hp hs h0 hn hk
      · have hfl : ¬ s.fail = some 0 := by rw [m.fail, stop_fail]; exact h0
        obtain ⟨_, _, _, q2, q3⟩ := put_go (r := 0) hs hn hfl
        rw [q2, q3, errV_zero]
        exact put_yes X D vb tg s Fd F bs a b t p c vs sd w m hF hf hd hoff hp hs h0 hn hk
  · obtain ⟨q1, q2, q3⟩ := put_dead (o := ((a, b), t, p, c, sd)) (r := (recB ((a, b), t, p, c, sd)).length) hs
    rw [q1, q2, q3, errV_ne (by decide)]
    refine (put_stop X s F a b t p c vs w h hs).mono ?_
    rintro e w' ⟨he, hb⟩
    exact ⟨he, left_same h hb⟩
theorem sync_stop (X : Nat) (s : Lg) (F : Nat → Prop) (w : World) (h : At w X s F) (hs : s.stopped = true) : Calls Tryz.prog 6 #[ptr X] w fun e w' => e = .returned (.iface 64 (.int .i64 6)) ∧ w' = w := by
  obtain ⟨D, vb, tg, Fd, bs, m, hF⟩ := h
  have hbk := m.blk
  rw [hs] at hbk
  have c4 := blk_cell hbk (i := 4) (u := .bool true) rfl
  clear m hF hbk hs
  go_enter Tryz.func6, Tryz.ntmps6
  go_wp2_with fail
  go_ret
  exact ⟨rfl, rfl⟩
theorem sync_half (X D : Nat) (vb : Value) (s : Lg) (Fd F : Nat → Prop) (bs : List UInt8) (w : World) (m : LAt w X D vb 0 s Fd bs) (hF : ∀ g, F g ↔ Fs X vb Fd g) (hs : s.stopped = false) : Calls Tryz.prog 6 #[ptr X] w fun e w' => e = .returned (.iface 64 (.int .i64 6)) ∧ Left' w X F (syncS s) w' := by
  have HM := Hid.mk' m
  have HF := Hid.mk' hF
  have HS := Hid.mk' hs
  have hbk := m.blk
  rw [hs] at hbk
  have c4 := blk_cell hbk (i := 4) (u := .bool false) rfl
  have C := stops_yes X D vb s.safe w hbk
  have HBK := Hid.mk' hbk
  clear m hF hbk hs
  go_enter Tryz.func6, Tryz.ntmps6
  go_wp2_with fail
  refine C.mono ?_
  rintro e w4 ⟨rfl, hw4⟩
  have HC4 : Hid (Chg (fun g => g = X) w w4) := by rw [Hid, hw4]; exact (Chg.refl (fun g => g = X) w).setCell (p := ⟨X, 4, none⟩) rfl _
  have HK4 : Hid (LgB w4 X D vb s.safe 0 true) := by rw [Hid, hw4]; unfold LgB; rw [set_heap HBK.out]; rfl
  clear hw4 c4 C
  go_wp2_with fail
  go_ret
  have hfl : s.fail = some 0 := by rw [HM.out.fail]; rfl
  have e1 : syncS s = { s with stopped := true } := by unfold syncS; rw [HS.out, if_neg (by decide), if_pos hfl]
  refine ⟨rfl, left_mk HF.out (HM.out.set (s' := syncS s) HC4.out HK4.out (by rw [e1]) (by rw [e1]) (by rw [e1]; exact hfl) (by decide) (sync_same s).1 (sync_same s).2.1 (sync_same s).2.2 (ok_sync HM.out.ok)) (HC4.out.mono fun g e => (HF.out g).2 (Or.inl e)) fun g e => Or.inl ((HF.out g).2 e)⟩
theorem sync_yes (X D : Nat) (vb : Value) (tg : Int) (s : Lg) (Fd F : Nat → Prop) (bs : List UInt8) (w : World) (m : LAt w X D vb tg s Fd bs) (hF : ∀ g, F g ↔ Fs X vb Fd g) (h0 : tg ≠ 0) (hs : s.stopped = false) : Calls Tryz.prog 6 #[ptr X] w fun e w' => e = .returned .nilIface ∧ Left' w X F (syncS s) w' := by
  have HM := Hid.mk' m
  have HF := Hid.mk' hF
  have HS := Hid.mk' hs
  have H0 := Hid.mk' h0
  have hbk := m.blk
  rw [hs] at hbk
  have c4 := blk_cell hbk (i := 4) (u := .bool false) rfl
  have hst : stB tg = false := decide_eq_false h0
  have C := stops_any X D vb s.safe tg w hbk m.top
  unfold StPost at C
  rw [hst] at C
  obtain ⟨p0, n0, q0, hvb, hn0⟩ := m.row.shape
  have HN0 : Hid ((n0 : Int) = s.bytes) := by rw [Hid, hn0.out, m.byt.len]
  subst hvb
  clear m hF hbk hs h0 hn0 hst
  go_enter Tryz.func6, Tryz.ntmps6
  go_wp2_with fail
  refine C.mono ?_
  rintro e w4 ⟨rfl, hk4, hc4⟩
  have HC4 := Hid.mk' hc4
  have HK4 := Hid.mk' hk4
  have d1 := blk_cell hk4 (i := 1) (u := .slice p0 n0 q0) rfl
  have d2 := blk_cell hk4 (i := 2) (u := .int .i64 s.safe) rfl
  have f2 := blk_free hk4 (i := 2)
  clear hk4 hc4 c4 C
  go_wp2_with fail
  go_ret
  have hfl : ¬ s.fail = some 0 := by rw [HM.out.fail, stop_fail]; exact H0.out
  have e1 : syncS s = { s with safe := s.bytes, fail := less s.fail } := by unfold syncS; rw [HS.out, if_neg (by decide), if_neg hfl]
  have hc : Chg (fun g => g = X) w (w4.setCell ⟨X, 2, none⟩ (.int .i64 n0)) := HC4.out.setCell (p := ⟨X, 2, none⟩) rfl _
  have hb : LgB (w4.setCell ⟨X, 2, none⟩ (.int .i64 n0)) X D (.slice p0 n0 q0) n0 (tgN tg) false := by unfold LgB; rw [set_heap HK4.out]; rfl
  refine ⟨rfl, left_mk HF.out (HM.out.set (s' := syncS s) hc hb (by rw [e1]; exact HN0.out.symm) (by rw [e1]; exact HS.out) (by rw [e1]; show less s.fail = _; rw [HM.out.fail, less_fail H0.out]) ?_ (sync_same s).1 (sync_same s).2.1 (sync_same s).2.2 (ok_sync HM.out.ok)) (hc.mono fun g e => (HF.out g).2 (Or.inl e)) fun g e => Or.inl ((HF.out g).2 e)⟩
  have := HM.out.top
  unfold tgN
  split <;> omega
theorem sync_any (X : Nat) (s : Lg) (F : Nat → Prop) (w : World) (h : At w X s F) : Calls Tryz.prog 6 #[ptr X] w fun e w' => e = .returned (errV (syncE s)) ∧ Left' w X F (syncS s) w' := by
  cases hs : s.stopped
  · obtain ⟨D, vb, tg, Fd, bs, m, hF⟩ := h
    by_cases h0 : tg = 0
    · subst h0
      have hfl : s.fail = some 0 := by rw [m.fail]; rfl
      have e1 : syncE s = 6 := by unfold syncE; rw [hs, if_neg (by decide), if_pos hfl]
      rw [e1, errV_ne (by decide)]
      exact sync_half X D vb s Fd F bs w m hF hs
    · have hfl : ¬ s.fail = some 0 := by rw [m.fail, stop_fail]; exact h0
      have e1 : syncE s = 0 := by unfold syncE; rw [hs, if_neg (by decide), if_neg hfl]
      rw [e1, errV_zero]
      exact sync_yes X D vb tg s Fd F bs w m hF h0 hs
  · have e1 : syncE s = 6 := by unfold syncE; rw [hs, if_pos rfl]
    have e2 : syncS s = s := by unfold syncS; rw [hs, if_pos rfl]
    rw [e1, e2, errV_ne (by decide)]
    refine (sync_stop X s F w h hs).mono ?_
    rintro e w' ⟨he, rfl⟩
    exact ⟨he, left_same h (Below.refl _ _)⟩

end Tt
end Go.Proofs.YtgefpcchcegcpaaGreatDoor
