/- Buffers in memory: what lies there, which blocks are a buffer's own; New, Doc, has. -/
import Derived.Test.YtnniggjeadlbgaaGreatDoorJd
import Derived.Test.YtnniggjeadlbgaaGreatDoorJ13
namespace Go.Proofs.YtnniggjeadlbgaaGreatDoor
namespace Je
set_option linter.unusedVariables false
set_option linter.unusedSimpArgs false
open Go.ChangeShapes Go.WideShapes Go.ChangeAt Go.RowKit Cm Ka Kb Na Om Oa Oz Oc Og Oi Hm Ia Ic Idc Ie If Ig Ii Ij Ik Il Im Ja Jb
open La (bel bel_drew errV_zero errV_ne own_ge own_grow own_below Lies)

structure BufMem (w : World) (B D MB : Nat) (S : Dq) (M : List Wx) (F G : Nat → Prop) : Prop where
  blk : w.heap[B]? = some (.cells #[.pointer (some ⟨D, 0, none⟩), .map (some MB)] 140)
  doc : DocAt w D S F
  map : MapW w MB M
  dts : ∀ y ∈ M, DtsAt w y.2 y.1.2.2.2.2 ∧ In G y.2
  size : ∀ y ∈ M, y.1.2.2.1.size ≤ maxLen
  wt : Wt (M.map (·.1))
  lt : ∀ g, G g → g < w.heap.size
  offF : ∀ g, G g → ¬ F g
  offB : ∀ g, G g → g ≠ B ∧ g ≠ MB
  offD : ¬ F B ∧ ¬ F MB
theorem BufMem.ne {w : World} {B D MB : Nat} {S : Dq} {M : List Wx} {F G : Nat → Prop} (h : BufMem w B D MB S M F G) : B ≠ MB := fun e => by
  have := h.blk
  rw [e] at this
  exact h.map.noCells this
theorem BufMem.stay {w w' : World} {B D MB : Nat} {S : Dq} {M : List Wx} {F G : Nat → Prop} (h : BufMem w B D MB S M F G) (hs : Stay (fun g => F g ∨ G g ∨ g = B ∨ g = MB) w w') (hz : w.heap.size ≤ w'.heap.size) : BufMem w' B D MB S M F G :=
  ⟨by rw [hs B (Or.inr (Or.inr (Or.inl rfl)))]; exact h.blk, h.doc.stay (fun g hg => hs g (Or.inl hg)) hz, h.map.stay (hs MB (Or.inr (Or.inr (Or.inr rfl)))), fun y hy => ⟨dots_stay (h.dts y hy).1 (h.dts y hy).2 (fun g hg => hs g (Or.inr (Or.inl hg))), (h.dts y hy).2⟩, h.size, h.wt, fun g hg => Nat.lt_of_lt_of_le (h.lt g hg) hz, h.offF, h.offB, h.offD⟩
theorem BufMem.all_lt {w : World} {B D MB : Nat} {S : Dq} {M : List Wx} {F G : Nat → Prop} (h : BufMem w B D MB S M F G) : ∀ g, (F g ∨ G g ∨ g = B ∨ g = MB) → g < w.heap.size := by
  rintro g (e | e | e | e)
  · exact h.doc.lt g e
  · exact h.lt g e
  · rw [e]; exact (Array.getElem?_eq_some_iff.1 h.blk).1
  · rw [e]; exact h.map.lt
theorem BufMem.below {w w' : World} {B D MB : Nat} {S : Dq} {M : List Wx} {F G : Nat → Prop} (h : BufMem w B D MB S M F G) (hb : Below w.heap.size w w') : BufMem w' B D MB S M F G :=
  h.stay (fun g hg => hb.block g (h.all_lt g hg)) hb.size
/- a buffer at block B over the doc at block D: its state, those that wait, all blocks that are its own -/
def BufAt (w : World) (B D : Nat) (S : Dq) (L : List Ox) (E : Nat → Prop) : Prop := ∃ MB M F G, BufMem w B D MB S M F G ∧ M.map (·.1) = L ∧ ∀ g, E g ↔ (F g ∨ G g ∨ g = B ∨ g = MB)
theorem BufAt.lt {w : World} {B D : Nat} {S : Dq} {L : List Ox} {E : Nat → Prop} (h : BufAt w B D S L E) : ∀ g, E g → g < w.heap.size := by
  obtain ⟨MB, M, F, G, m, _, hE⟩ := h
  exact fun g hg => m.all_lt g ((hE g).1 hg)
theorem BufAt.stay {w w' : World} {B D : Nat} {S : Dq} {L : List Ox} {E : Nat → Prop} (h : BufAt w B D S L E) (hs : Stay E w w') (hz : w.heap.size ≤ w'.heap.size) : BufAt w' B D S L E := by
  obtain ⟨MB, M, F, G, m, hM, hE⟩ := h
  exact ⟨MB, M, F, G, m.stay (fun g hg => hs g ((hE g).2 hg)) hz, hM, hE⟩
theorem BufAt.below {w w' : World} {B D : Nat} {S : Dq} {L : List Ox} {E : Nat → Prop} (h : BufAt w B D S L E) (hb : Below w.heap.size w w') : BufAt w' B D S L E :=
  h.stay (fun g hg => hb.block g (h.lt g hg)) hb.size
theorem BufAt.chg {w w' : World} {B D : Nat} {S : Dq} {L : List Ox} {E H : Nat → Prop} (h : BufAt w B D S L E) (hc : Chg H w w') (hd : ∀ g, E g → ¬ H g) : BufAt w' B D S L E :=
  h.stay (hc.stay fun g hg => ⟨h.lt g hg, hd g hg⟩) hc.size
theorem BufAt.doc {w : World} {B D : Nat} {S : Dq} {L : List Ox} {E : Nat → Prop} (h : BufAt w B D S L E) : ∃ F, DocAt w D S F ∧ ∀ g, F g → E g := by
  obtain ⟨MB, M, F, G, m, hM, hE⟩ := h
  exact ⟨F, m.doc, fun g hg => (hE g).2 (Or.inl hg)⟩
theorem BufAt.wt {w : World} {B D : Nat} {S : Dq} {L : List Ox} {E : Nat → Prop} (h : BufAt w B D S L E) : Wt L := by
  obtain ⟨MB, M, F, G, m, hM, hE⟩ := h
  rw [← hM]; exact m.wt
theorem BufAt.inv {w : World} {B D : Nat} {S : Dq} {L : List Ox} {E : Nat → Prop} (h : BufAt w B D S L E) : Inv S := by
  obtain ⟨MB, M, F, G, m, hM, hE⟩ := h
  exact m.doc.inv
theorem BufAt.self {w : World} {B D : Nat} {S : Dq} {L : List Ox} {E : Nat → Prop} (h : BufAt w B D S L E) : E B := by
  obtain ⟨MB, M, F, G, m, hM, hE⟩ := h
  exact (hE B).2 (Or.inr (Or.inr (Or.inl rfl)))

set_option maxHeartbeats 1000000 in
theorem buf_new (D : Nat) (S : Dq) (F : Nat → Prop) (w : World) (h : DocAt w D S F) :
    Calls Tryz.prog 37 #[.pointer (some ⟨D, 0, none⟩)] w fun e w' => ∃ B E, e = .returned (.pointer (some ⟨B, 0, none⟩)) ∧ BufAt w' B D S [] E ∧ (∀ g, E g → F g ∨ w.heap.size ≤ g) ∧ Below w.heap.size w w' := by
  have HD : Hid (DocAt w D S F) := h
  have hmm := @run_makeMap Tryz.prog
  clear h
  go_enter Tryz.func37, Tryz.ntmps37
  go_wp2_with fail
  go_ret
  have b1 : Below w.heap.size w (w.alloc (.map #[] 0)) := (Below.refl _ w).alloc (Nat.le_refl _) _
  have b2 : Below w.heap.size w ((w.alloc (.map #[] 0)).alloc (.cells #[.pointer (some ⟨D, 0, none⟩), .map (some w.heap.size)] 140)) := b1.alloc (by simp) _
  have hd := HD.out.lt
  refine ⟨w.heap.size + 1, fun g => F g ∨ False ∨ g = w.heap.size + 1 ∨ g = w.heap.size, rfl, ⟨w.heap.size, [], F, fun _ => False, ⟨?_, HD.out.below b2, ?_, fun y hy => (by cases hy), fun y hy => (by cases hy), Wt.nil, fun g hg => hg.elim, fun g hg => hg.elim, fun g hg => hg.elim, fun e => (by have := hd _ e; omega), fun e => (by have := hd _ e; omega)⟩, rfl, fun g => Iff.rfl⟩, ?_, b2⟩
  · have := heap_alloc_new (w.alloc (.map #[] 0)) (.cells #[.pointer (some ⟨D, 0, none⟩), .map (some w.heap.size)] 140)
    rwa [show (w.alloc (.map #[] 0)).heap.size = w.heap.size + 1 by simp] at this
  · exact (make_map w).stay (Below.heap_alloc _ _ _ (by simp))
  · rintro g (e | e | e | e)
    · exact Or.inl e
    · exact e.elim
    · exact Or.inr (by omega)
    · exact Or.inr (by omega)
set_option maxHeartbeats 1000000 in
theorem buf_doc (B D : Nat) (S : Dq) (L : List Ox) (E : Nat → Prop) (w : World) (h : BufAt w B D S L E) :
    Calls Tryz.prog 40 #[.pointer (some ⟨B, 0, none⟩)] w fun e w' => e = .returned (.pointer (some ⟨D, 0, none⟩)) ∧ w' = w := by
  obtain ⟨MB, M, F, G, m, _, _⟩ := h
  have c0 := blk_cell m.blk (i := 0) (u := .pointer (some ⟨D, 0, none⟩)) rfl
  clear m
  go_enter Tryz.func40, Tryz.ntmps40
  go_wp2_with fail
  go_ret
  exact ⟨rfl, rfl⟩
theorem buf_waits (B D : Nat) (S : Dq) (L : List Ox) (E : Nat → Prop) (w : World) (h : BufAt w B D S L E) :
    Calls Tryz.prog 39 #[.pointer (some ⟨B, 0, none⟩)] w fun e w' => ∃ v, e = .returned v ∧ w'.ownsRow w.heap.size 30 2 v L.length (flatD (waits L)) ∧ Below w.heap.size w w' := by
  obtain ⟨MB, M, F, G, m, hM, _⟩ := h
  have hl : M.length = L.length := by rw [← hM, List.length_map]
  have hw := m.wt.few
  rw [List.length_map] at hw
  have := Jd.waits_any B MB M w (blk_cell m.blk (i := 1) rfl) m.map (by omega)
  rw [hM, hl] at this
  exact this

theorem look_none {w : World} {B : Nat} {M : List Wx} {a b : Int} (h : MapW w B M) (hf : findW (a, b) M = none) :
    (Instr.lookup 138 (.map (some B)) (.agg #[.int .i64 a, .int .i64 b]) true).run Tryz.prog w = .ok (.tuple #[.agg #[.int .i64 0, .int .i64 0, .int .i64 0, .string ByteArray.empty, .int .i64 0, .slice none 0 0], .bool false]) w := by
  have := lookup_run h a b
  unfold lookV at this
  rw [hf] at this
  exact this
theorem look_some {w : World} {B : Nat} {M : List Wx} {a b : Int} {i : Nat} {x1 x2 t c : Int} {p : ByteArray} {s : List Dt} {v : Value} (h : MapW w B M) (hf : findW (a, b) M = some (i, (((x1, x2), t, p, c, s), v))) :
    (Instr.lookup 138 (.map (some B)) (.agg #[.int .i64 a, .int .i64 b]) true).run Tryz.prog w = .ok (.tuple #[.agg #[.int .i64 x1, .int .i64 x2, .int .i64 t, .string p, .int .i64 c, v], .bool true]) w := by
  have := lookup_run h a b
  unfold lookV at this
  rw [hf] at this
  exact this

theorem cell_lift {w W : World} {g q : Nat} {v : Value} (h : w.cell? ⟨g, q, none⟩ = some v) (hb : Below w.heap.size w W) : W.cell? ⟨g, q, none⟩ = some v := Nc.keep_cell hb h
theorem below_d (w : World) : Below w.heap.size w w.drew := (Below.refl _ w).drew
theorem below_a (w : World) (O : Obj) : Below w.heap.size w (w.alloc O) := (Below.refl _ w).alloc (Nat.le_refl _) O
theorem below_ad (w : World) (O : Obj) : Below w.heap.size w (w.alloc O).drew := (below_a w O).drew
theorem with_zero2 {S : Dq} (I : Inv S) {a b : Int} (hd : dotE a b = 0) : Dm.withE S.known a b = 0 := by
  unfold Dm.withE; rw [if_pos (vec_ok I)]; exact hd
theorem enter_known (args : Array Value) (W : World) : (callFunc 19 args).run Tryz.prog W = .ok (.enter 19 args) W := by
  first | kernel_rfl | simp [callFunc, go_sem, Tryz.func19]
theorem enter_has (args : Array Value) (W : World) : (callFunc 114 args).run Tryz.prog W = .ok (.enter 114 args) W := by
  first | kernel_rfl | simp [callFunc, go_sem, Tryz.func114]

set_option maxRecDepth 100000 in
set_option maxHeartbeats 2000000 in
theorem has_none (B D MB : Nat) (S : Dq) (M : List Wx) (F G : Nat → Prop) (a b : Int) (w : World) (h : BufMem w B D MB S M F G) (hd : dotE a b = 0) (hf : findW (a, b) M = none) :
    Calls Tryz.prog 77 #[.pointer (some ⟨B, 0, none⟩), .agg #[.int .i64 a, .int .i64 b]] w fun e w' => e = .returned (.bool (decide (b ≤ kn S a))) ∧ Below w.heap.size w w' := by
  obtain ⟨r, hr⟩ : ∃ r, r = decide (b ≤ kn S a) := ⟨_, rfl⟩
  have HR : Hid (Dm.hasB S.known a b = r) := by unfold Hid; rw [hr, has_eq h.doc.inv hd]
  rw [← hr]
  have hb1 : Below w.heap.size w (w.alloc (.cells #[.int .i64 a, .int .i64 b] 30)) := (Below.refl _ w).alloc (Nat.le_refl _) _
  have h1 := h.below hb1
  have c2 := blk_cell (heap_alloc_new w (.cells #[.int .i64 a, .int .i64 b] 30)) (i := 0) (u := .int .i64 a) rfl
  have c3 := blk_cell (heap_alloc_new w (.cells #[.int .i64 a, .int .i64 b] 30)) (i := 1) (u := .int .i64 b) rfl
  have HB1 : Hid (Below w.heap.size w (w.alloc (.cells #[.int .i64 a, .int .i64 b] 30))) := hb1
  clear h hr hb1
  go_enter Tryz.func77, Tryz.ntmps77
  go_wp2_with fail
  generalize hW1 : w.alloc (.cells #[.int .i64 a, .int .i64 b] 30) = W1 at h1 c2 c3 HB1 ⊢
  have c0 := blk_cell h1.blk (i := 0) (u := .pointer (some ⟨D, 0, none⟩)) rfl
  have c1 := blk_cell h1.blk (i := 1) (u := .map (some MB)) rfl
  have e1 := fun O => cell_lift c1 (below_a W1 O)
  have e2 := fun O => cell_lift c2 (below_a W1 O)
  have e3 := fun O => cell_lift c3 (below_a W1 O)
  have l1 := look_none (h1.map.below (below_d W1)) hf
  have l2 := fun O => look_none (h1.map.below (below_ad W1 O)) hf
  have HM : Hid (BufMem W1 B D MB S M F G) := h1
  have HC : Hid (W1.cell? ⟨w.heap.size, 0, none⟩ = some (.int .i64 a) ∧ W1.cell? ⟨w.heap.size, 1, none⟩ = some (.int .i64 b)) := ⟨c2, c3⟩
  have HBA : Hid (∀ O, Below W1.heap.size W1 (W1.alloc O).drew) := fun O => below_ad W1 O
  have HW0 : Hid (Dm.withE S.known a b = 0) := with_zero2 h1.doc.inv hd
  clear h1 hf hW1
  go_region_law (fail)
  all_goals
    clear c0 c1 c2 c3 e1 e2 e3 l1 l2
    generalize hW2 : World.drew (World.alloc W1 _) = W2
    have hb2 : Below W1.heap.size W1 W2 := by rw [← hW2]; exact HBA.out _
    have h2 := HM.out.below hb2
    have HM2 : Hid (BufMem W2 B D MB S M F G) := h2
    have HB2 : Hid (Below w.heap.size w W2) := bel HB1.out hb2
    have c0 := blk_cell h2.blk (i := 0) (u := .pointer (some ⟨D, 0, none⟩)) rfl
    have c2 := cell_lift HC.out.1 hb2
    have c3 := cell_lift HC.out.2 hb2
    have HC2 : Hid (W2.cell? ⟨w.heap.size, 0, none⟩ = some (.int .i64 a) ∧ W2.cell? ⟨w.heap.size, 1, none⟩ = some (.int .i64 b)) := ⟨c2, c3⟩
    clear hW2 hb2 h2
    go_wp2_with fail
    go_region_law (first
      | (refine step_call1 (R := fun v w' => KnAt w' v S.known ∧ Lies W2.drew.heap.size v ∧ Below W2.drew.heap.size W2.drew w') (by rfl) 19 (.tmp 23) _ (by rfl) _ (by rfl) enter_known (known_get D S F _ (HM2.out.doc.below (below_d W2))) ?_; rintro v7 w7 ⟨⟨p7, k7, rfl, hi7⟩, _, hb7⟩; have HK7 : Hid (Za.IntsIn w7 p7 S.known) := hi7; have HB7 : Hid (Below W2.heap.size W2 w7) := un_drew hb7; have m2 := cell_lift HC2.out.1 HB7.out; have m3 := cell_lift HC2.out.2 HB7.out; clear hi7 hb7)
      | (refine step_call2 (R := fun v w' => v = .tuple #[.bool r, .nilIface] ∧ Below w7.heap.size w7 w') (by rfl) 114 (.tmp 24) (.tmp 25) _ _ (by rfl) _ _ (by rfl) (by rfl) enter_has ((Dd.has_any p7 _ k7 S.known a b w7 rfl HK7.out).mono (by rintro e w' ⟨rfl, hb8⟩; exact ⟨_, rfl, by rw [HR.out, HW0.out]; rfl, hb8⟩)) ?_; rintro v8 w8 ⟨rfl, hb8⟩; have HB8 : Hid (Below w.heap.size w w8) := bel (bel HB2.out HB7.out) hb8; clear hb8))
    all_goals
      go_wp2_with fail
      go_ret
      exact ⟨rfl, HB8.out⟩
set_option maxRecDepth 100000 in
set_option maxHeartbeats 2000000 in
theorem has_some (B D MB : Nat) (S : Dq) (M : List Wx) (F G : Nat → Prop) (a b : Int) (w : World) (h : BufMem w B D MB S M F G) (i : Nat) (x1 x2 t c : Int) (p : ByteArray) (s : List Dt) (q : Option Addr) (n k : Nat) (hf : findW (a, b) M = some (i, (((x1, x2), t, p, c, s), .slice q n k))) :
    Calls Tryz.prog 77 #[.pointer (some ⟨B, 0, none⟩), .agg #[.int .i64 a, .int .i64 b]] w fun e w' => e = .returned (.bool true) ∧ Below w.heap.size w w' := by
  have hb1 : Below w.heap.size w (w.alloc (.cells #[.int .i64 a, .int .i64 b] 30)) := (Below.refl _ w).alloc (Nat.le_refl _) _
  have h1 := h.below hb1
  have c2 := blk_cell (heap_alloc_new w (.cells #[.int .i64 a, .int .i64 b] 30)) (i := 0) (u := .int .i64 a) rfl
  have c3 := blk_cell (heap_alloc_new w (.cells #[.int .i64 a, .int .i64 b] 30)) (i := 1) (u := .int .i64 b) rfl
  have HB1 : Hid (Below w.heap.size w (w.alloc (.cells #[.int .i64 a, .int .i64 b] 30))) := hb1
  clear h hb1
  go_enter Tryz.func77, Tryz.ntmps77
  go_wp2_with fail
  generalize hW1 : w.alloc (.cells #[.int .i64 a, .int .i64 b] 30) = W1 at h1 c2 c3 HB1 ⊢
  have c0 := blk_cell h1.blk (i := 0) (u := .pointer (some ⟨D, 0, none⟩)) rfl
  have c1 := blk_cell h1.blk (i := 1) (u := .map (some MB)) rfl
  have e1 := fun O => cell_lift c1 (below_a W1 O)
  have e2 := fun O => cell_lift c2 (below_a W1 O)
  have e3 := fun O => cell_lift c3 (below_a W1 O)
  have l1 := look_some (h1.map.below (below_d W1)) hf
  have l2 := fun O => look_some (h1.map.below (below_ad W1 O)) hf
  have HBA : Hid (∀ O, Below W1.heap.size W1 (W1.alloc O).drew) := fun O => below_ad W1 O
  clear h1 hf hW1
  go_region_law (fail)
  all_goals
    clear c0 c1 c2 c3 e1 e2 e3 l1 l2
    generalize hW2 : World.drew (World.alloc W1 _) = W2
    have HB2 : Hid (Below w.heap.size w W2) := bel HB1.out (by rw [← hW2]; exact HBA.out _)
    clear hW2
    go_wp2_with fail
    go_ret
    exact ⟨rfl, HB2.out⟩
theorem has_buf (B D MB : Nat) (S : Dq) (M : List Wx) (F G : Nat → Prop) (a b : Int) (w : World) (h : BufMem w B D MB S M F G) (hd : dotE a b = 0) :
    Calls Tryz.prog 77 #[.pointer (some ⟨B, 0, none⟩), .agg #[.int .i64 a, .int .i64 b]] w fun e w' => e = .returned (.bool ((dotIn (M.map (·.1)) (a, b)).isSome || decide (b ≤ kn S a))) ∧ Below w.heap.size w w' := by
  rw [← find_dot]
  cases hf : findW (a, b) M with
  | none =>
    refine (has_none B D MB S M F G a b w h hd hf).mono ?_
    rintro e w' ⟨rfl, hb⟩
    exact ⟨by simp, hb⟩
  | some r =>
    obtain ⟨i, ⟨⟨⟨x1, x2⟩, t, p, c, s⟩, v⟩⟩ := r
    obtain ⟨q, k, e9, _⟩ := (h.dts _ (find_mem hf).1).1
    simp only at e9
    subst e9
    refine (has_some B D MB S M F G a b w h i x1 x2 t c p s q _ k hf).mono ?_
    rintro e w' ⟨rfl, hb⟩
    exact ⟨by simp, hb⟩

end Je
end Go.Proofs.YtnniggjeadlbgaaGreatDoor
