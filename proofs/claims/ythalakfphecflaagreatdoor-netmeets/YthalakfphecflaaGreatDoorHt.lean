/- Package net: opsOf, edit. -/
import Derived.Test.YthalakfphecflaaGreatDoorHo
import Derived.Test.YthalakfphecflaaGreatDoorHs
import Derived.Deep.DeepCutAuto
namespace Go.Proofs.YthalakfphecflaaGreatDoor
namespace Ht
set_option linter.unusedVariables false
set_option linter.unusedSimpArgs false
open Go.ChangeShapes Go.WideShapes Go.ChangeAt Go.RowKit Cm Ka Kb Na Om Oa Oz Oc Og Oi Hm Ia Ic Ie Im Um Ua Ue Aa Ov Hc Hd Hi Hl Ho Hs
open La (bel bel_drew errV_zero errV_ne own_ge own_grow own_below Lies)

/- the letter, as a text -/
theorem one_conv (w : World) (c : Int) (h1 : 32 ≤ c) (h2 : c ≤ 126) :
    (convert 88 9 (.slice (some ⟨w.heap.size, 0, none⟩) 1 1)).run Tryz.prog (w.alloc (.cells #[.int .u8 c] 5)) = .ok (.string (oneT c)) (w.alloc (.cells #[.int .u8 c] 5)) := by
  have h3 : (w.alloc (.cells #[.int .u8 c] 5)).heap[w.heap.size]? = some (.cells #[.int .u8 c] 5) := heap_alloc_new w _
  refine run_convert_bytes_back (P := Tryz.prog) _ 88 9 5 ⟨w.heap.size, 0, none⟩ 1 [u8 c] Tryz.underlying88 Tryz.underlying5 Tryz.underlying9 ?_
  intro j hj
  rw [Addr.add_lit, Nat.zero_add]
  simp only [World.cell?, h3]
  match j, hj with
  | 0, _ => show some (Value.int .u8 c) = some (Value.int .u8 ((u8 c).toNat : Int)); rw [u8_let h1 h2]
theorem own_base {w : World} {B B' z n : Nat} {t : TypeId} {v : Value} {xs : List Value} (h : w.ownsRow B t z v n xs) (hB : B' ≤ B) : w.ownsRow B' t z v n xs := by
  refine ⟨h.1, ?_⟩
  rcases h.2 with h0 | ⟨g, cap, cur, h1, h2, h3⟩
  · exact Or.inl h0
  · exact Or.inr ⟨g, cap, cur, h1, Nat.le_trans hB h2, h3⟩
theorem OpsNew.base {w : World} {B B' : Nat} {v : Value} {l : List Ox} (h : OpsNew B w v l) (hB : B' ≤ B) : OpsNew B' w v l := by
  obtain ⟨g, L, h1, h2, h3, h4, h6, h5⟩ := h
  exact ⟨g, L, h1, Nat.le_trans hB h2, h3, h4, h6, fun y hy => own_base (h5 y hy) hB⟩
theorem EdPost.slice {w w' : World} {k : Int} {L : List Ox} {v : Value} (h1 : k = 0 → OpsNew w.heap.size w' v L) (h2 : k ≠ 0 → v = .slice none 0 0) : ∃ p n c, v = .slice p n c := by
  by_cases hk : k = 0
  · obtain ⟨g, L, e, _⟩ := h1 hk; exact ⟨_, _, _, e⟩
  · exact ⟨_, _, _, h2 hk⟩
set_option maxRecDepth 100000 in
set_option maxHeartbeats 2000000 in
theorem ops_split (D : Nat) (who a b c k : Int) (L : List Ox) (w : World) (C : ∀ W, Below w.heap.size w W → Calls Tryz.prog 66 #[ptr D, .int .i64 who, .int .i64 b] W (EdPost W k L)) :
    Calls Tryz.prog 42 #[evV (7, a, b, c), ptr D, .int .i64 who] w (EdPost w k L) := by
  have hB0 : Below w.heap.size w (w.alloc (.cells #[.int .i64 7, .int .i64 a, .int .i64 b, .int .i64 c] 30)) := (Below.refl _ _).alloc (Nat.le_refl _) _
  have hA0 := heap_alloc_new w (.cells #[.int .i64 7, .int .i64 a, .int .i64 b, .int .i64 c] 30)
  go_enter Tryz.func42, Tryz.ntmps42
  go_upto_region 1 with fail
  generalize w.alloc (.cells #[.int .i64 7, .int .i64 a, .int .i64 b, .int .i64 c] 30) = w0 at hB0 hA0 ⊢
  have HB0 := Hid.mk' hB0
  have y0 := blk_cell hA0 (i := 0) (u := .int .i64 7) rfl
  have y1 := blk_cell hA0 (i := 1) (u := .int .i64 a) rfl
  have y2 := blk_cell hA0 (i := 2) (u := .int .i64 b) rfl
  have y3 := blk_cell hA0 (i := 3) (u := .int .i64 c) rfl
  have C0 := C _ hB0
  go_wp2_with fail
  refine C0.mono ?_
  rintro e w3 ⟨v, rfl, h1, h2, hb3⟩
  obtain ⟨p3, n3, c3, rfl⟩ := EdPost.slice h1 h2
  have HP : Hid (EdPost w k L (.returned (.tuple #[.slice p3 n3 c3, errV k])) w3) := ⟨_, rfl, fun e => OpsNew.base (h1 e) HB0.out.size, h2, bel HB0.out hb3⟩
  generalize errV k = ek at HP ⊢
  clear h1 h2 hb3 C0 C hB0 hA0 y0 y1 y2 y3
  go_wp2_with fail
  go_ret2
  exact HP.out
set_option maxRecDepth 100000 in
set_option maxHeartbeats 2000000 in
theorem ops_fuse (D : Nat) (who a b c k : Int) (L : List Ox) (w : World) (C : ∀ W, Below w.heap.size w W → Calls Tryz.prog 67 #[ptr D, .int .i64 who, .int .i64 b] W (EdPost W k L)) :
    Calls Tryz.prog 42 #[evV (8, a, b, c), ptr D, .int .i64 who] w (EdPost w k L) := by
  have hB0 : Below w.heap.size w (w.alloc (.cells #[.int .i64 8, .int .i64 a, .int .i64 b, .int .i64 c] 30)) := (Below.refl _ _).alloc (Nat.le_refl _) _
  have hA0 := heap_alloc_new w (.cells #[.int .i64 8, .int .i64 a, .int .i64 b, .int .i64 c] 30)
  go_enter Tryz.func42, Tryz.ntmps42
  go_upto_region 1 with fail
  generalize w.alloc (.cells #[.int .i64 8, .int .i64 a, .int .i64 b, .int .i64 c] 30) = w0 at hB0 hA0 ⊢
  have HB0 := Hid.mk' hB0
  have y0 := blk_cell hA0 (i := 0) (u := .int .i64 8) rfl
  have y1 := blk_cell hA0 (i := 1) (u := .int .i64 a) rfl
  have y2 := blk_cell hA0 (i := 2) (u := .int .i64 b) rfl
  have y3 := blk_cell hA0 (i := 3) (u := .int .i64 c) rfl
  have C0 := C _ hB0
  go_wp2_with fail
  refine C0.mono ?_
  rintro e w3 ⟨v, rfl, h1, h2, hb3⟩
  obtain ⟨p3, n3, c3, rfl⟩ := EdPost.slice h1 h2
  have HP : Hid (EdPost w k L (.returned (.tuple #[.slice p3 n3 c3, errV k])) w3) := ⟨_, rfl, fun e => OpsNew.base (h1 e) HB0.out.size, h2, bel HB0.out hb3⟩
  generalize errV k = ek at HP ⊢
  clear h1 h2 hb3 C0 C hB0 hA0 y0 y1 y2 y3
  go_wp2_with fail
  go_ret2
  exact HP.out
set_option maxRecDepth 100000 in
set_option maxHeartbeats 2000000 in
theorem ops_erase (D : Nat) (who a b c k b1 : Int) (hwr : IntKind.i64.wrap (b + 1) = b1) (L : List Ox) (w : World) (C : ∀ W, Below w.heap.size w W → Calls Tryz.prog 65 #[ptr D, .int .i64 who, .int .i64 b, .int .i64 b1] W (EdPost W k L)) :
    Calls Tryz.prog 42 #[evV (2, a, b, c), ptr D, .int .i64 who] w (EdPost w k L) := by
  have hB0 : Below w.heap.size w (w.alloc (.cells #[.int .i64 2, .int .i64 a, .int .i64 b, .int .i64 c] 30)) := (Below.refl _ _).alloc (Nat.le_refl _) _
  have hA0 := heap_alloc_new w (.cells #[.int .i64 2, .int .i64 a, .int .i64 b, .int .i64 c] 30)
  go_enter Tryz.func42, Tryz.ntmps42
  go_upto_region 1 with fail
  generalize w.alloc (.cells #[.int .i64 2, .int .i64 a, .int .i64 b, .int .i64 c] 30) = w0 at hB0 hA0 ⊢
  have HB0 := Hid.mk' hB0
  have y0 := blk_cell hA0 (i := 0) (u := .int .i64 2) rfl
  have y1 := blk_cell hA0 (i := 1) (u := .int .i64 a) rfl
  have y2 := blk_cell hA0 (i := 2) (u := .int .i64 b) rfl
  have y3 := blk_cell hA0 (i := 3) (u := .int .i64 c) rfl
  have C0 := C _ hB0
  go_wp2_with fail
  refine C0.mono ?_
  rintro e w3 ⟨v, rfl, h1, h2, hb3⟩
  obtain ⟨p3, n3, c3, rfl⟩ := EdPost.slice h1 h2
  have HP : Hid (EdPost w k L (.returned (.tuple #[.slice p3 n3 c3, errV k])) w3) := ⟨_, rfl, fun e => OpsNew.base (h1 e) HB0.out.size, h2, bel HB0.out hb3⟩
  generalize errV k = ek at HP ⊢
  clear h1 h2 hb3 C0 C hB0 hA0 y0 y1 y2 y3
  go_wp2_with fail
  go_ret2
  exact HP.out
set_option maxRecDepth 100000 in
set_option maxHeartbeats 2000000 in
theorem ops_type (D : Nat) (who a b c k : Int) (L : List Ox) (w : World) (h32 : 32 ≤ c) (h126 : c ≤ 126) (C : ∀ W, Below w.heap.size w W → Calls Tryz.prog 64 #[ptr D, .int .i64 who, .int .i64 b, .string (oneT c)] W (EdPost W k L)) :
    Calls Tryz.prog 42 #[evV (1, a, b, c), ptr D, .int .i64 who] w (EdPost w k L) := by
  have hlb : Bm.isL c = true := by unfold Bm.isL; simp; omega
  have hB0 : Below w.heap.size w (w.alloc (.cells #[.int .i64 1, .int .i64 a, .int .i64 b, .int .i64 c] 30)) := (Below.refl _ _).alloc (Nat.le_refl _) _
  have hA0 := heap_alloc_new w (.cells #[.int .i64 1, .int .i64 a, .int .i64 b, .int .i64 c] 30)
  go_enter Tryz.func42, Tryz.ntmps42
  go_upto_region 1 with fail
  generalize w.alloc (.cells #[.int .i64 1, .int .i64 a, .int .i64 b, .int .i64 c] 30) = w0 at hB0 hA0 ⊢
  have HB0 := Hid.mk' hB0
  have y0 := blk_cell hA0 (i := 0) (u := .int .i64 1) rfl
  have y1 := blk_cell hA0 (i := 1) (u := .int .i64 a) rfl
  have y2 := blk_cell hA0 (i := 2) (u := .int .i64 b) rfl
  have y3 := blk_cell hA0 (i := 3) (u := .int .i64 c) rfl
  have CL := Lb.isLetter_any c w0
  rw [hlb] at CL
  go_wp2_with fail
  refine CL.mono ?_
  rintro e w3 ⟨rfl, hw3⟩
  subst hw3
  clear CL
  have hcv := one_conv w3 c h32 h126
  have HB3 : Hid (Below w.heap.size w (w3.alloc (.cells #[.int .u8 c] 5))) := HB0.out.alloc HB0.out.size _
  have C0 := C _ HB3.out
  go_wp2_with fail
  refine C0.mono ?_
  rintro e w4 ⟨v, rfl, h1, h2, hb3⟩
  obtain ⟨p3, n3, c3, rfl⟩ := EdPost.slice h1 h2
  have HP : Hid (EdPost w k L (.returned (.tuple #[.slice p3 n3 c3, errV k])) w4) := ⟨_, rfl, fun e => OpsNew.base (h1 e) HB3.out.size, h2, bel HB3.out hb3⟩
  generalize errV k = ek at HP ⊢
  clear h1 h2 hb3 C0 C hB0 hA0 y0 y1 y2 y3 hcv
  go_wp2_with fail
  go_ret2
  exact HP.out
set_option maxRecDepth 100000 in
set_option maxHeartbeats 2000000 in
theorem ops_none (D : Nat) (who a b c : Int) (L : List Ox) (w : World) (hl : c < 32 ∨ 126 < c) :
    Calls Tryz.prog 42 #[evV (1, a, b, c), ptr D, .int .i64 who] w (EdPost w 1 L) := by
  have hlb : Bm.isL c = false := by unfold Bm.isL; simp; omega
  have hB0 : Below w.heap.size w (w.alloc (.cells #[.int .i64 1, .int .i64 a, .int .i64 b, .int .i64 c] 30)) := (Below.refl _ _).alloc (Nat.le_refl _) _
  have hA0 := heap_alloc_new w (.cells #[.int .i64 1, .int .i64 a, .int .i64 b, .int .i64 c] 30)
  go_enter Tryz.func42, Tryz.ntmps42
  go_upto_region 1 with fail
  generalize w.alloc (.cells #[.int .i64 1, .int .i64 a, .int .i64 b, .int .i64 c] 30) = w0 at hB0 hA0 ⊢
  have HB0 := Hid.mk' hB0
  have y0 := blk_cell hA0 (i := 0) (u := .int .i64 1) rfl
  have y1 := blk_cell hA0 (i := 1) (u := .int .i64 a) rfl
  have y2 := blk_cell hA0 (i := 2) (u := .int .i64 b) rfl
  have y3 := blk_cell hA0 (i := 3) (u := .int .i64 c) rfl
  have CL := Lb.isLetter_any c w0
  rw [hlb] at CL
  clear hB0 hA0 hl
  go_wp2_with fail
  refine CL.mono ?_
  rintro e w3 ⟨rfl, hw3⟩
  subst hw3
  clear CL
  go_wp2_with fail
  go_ret2
  exact ⟨_, by rw [errV_ne (by decide)]; rfl, fun e => absurd e (by decide), fun _ => rfl, HB0.out⟩
/- all of them -/
theorem is_ed {t : Int} (h : isEd t = true) : t = 1 ∨ t = 2 ∨ t = 7 ∨ t = 8 := by
  unfold isEd at h
  simpa using h
theorem opsOf_any (D : Nat) (S : Dq) (F : Nat → Prop) (who t a b c : Int) (w : World) (h : DocAt w D S F) (hw : Pm.isWho who = true) (ht : isEd t = true) :
    Calls Tryz.prog 42 #[evV (t, a, b, c), ptr D, .int .i64 who] w (EdPost w (edE S who (t, a, b, c)) (edL S who (t, a, b, c))) := by
  rcases is_ed ht with rfl | rfl | rfl | rfl
  · by_cases hl : c < 32 ∨ 126 < c
    · rw [show edE S who (1, a, b, c) = 1 by unfold edE; dsimp only; rw [if_pos rfl, if_pos hl]]
      exact ops_none D who a b c _ w hl
    · rw [show edE S who (1, a, b, c) = insE S who b (oneT c) by unfold edE; dsimp only; rw [if_pos rfl, if_neg hl], show edL S who (1, a, b, c) = insL S who b (oneT c) by unfold edL; dsimp only; rw [if_pos rfl]]
      exact ops_type D who a b c _ _ w (by omega) (by omega) fun W hb => insert_any D S F who b (oneT c) W (h.below hb) (by rw [one_size]; unfold maxLen; omega)
  · have e1 : edE S who (2, a, b, c) = delE S who b (IntKind.i64.wrap (b + 1)) := by
      rw [era_E h.inv hw b]; unfold edE; dsimp only; rw [if_neg (by decide), if_pos rfl]
    have C := ops_erase D who a b c (delE S who b (IntKind.i64.wrap (b + 1))) _ rfl (delL S who b (IntKind.i64.wrap (b + 1))) w fun W hb => Uq.delete_any D S F who b _ W (h.below hb)
    rw [e1]
    by_cases hz : b < 0 ∨ ((seenP S.book).length : Int) ≤ b
    · have e2 : delE S who b (IntKind.i64.wrap (b + 1)) = 1 := by rw [era_E h.inv hw b, if_pos hz]
      rw [e2] at C ⊢
      refine C.mono ?_
      rintro e w' ⟨v, h1, h2, h3, h4⟩
      exact ⟨v, h1, fun e => absurd e (by decide), h3, h4⟩
    · have e3 := era_L (w := who) h.inv hz
      rw [e3] at C ⊢
      rw [show edL S who (2, a, b, c) = delL S who b (b + 1) by unfold edL; dsimp only; rw [if_neg (by decide), if_pos rfl]]
      exact C
  · rw [show edE S who (7, a, b, c) = atE S who b by unfold edE; dsimp only; rw [if_neg (by decide), if_neg (by decide), if_pos rfl], show edL S who (7, a, b, c) = splL S who b by unfold edL; dsimp only; rw [if_neg (by decide), if_neg (by decide), if_pos rfl]]
    exact ops_split D who a b c _ _ w fun W hb => Uf.split_any D S F who b W (h.below hb)
  · rw [show edE S who (8, a, b, c) = fusE S who b by unfold edE; dsimp only; rw [if_neg (by decide), if_neg (by decide), if_neg (by decide)], show edL S who (8, a, b, c) = fusL S who b by unfold edL; dsimp only; rw [if_neg (by decide), if_neg (by decide), if_neg (by decide)]]
    exact ops_fuse D who a b c _ _ w fun W hb => Ur.fuse_any D S F who b W (h.below hb)

end Ht
end Go.Proofs.YthalakfphecflaaGreatDoor
