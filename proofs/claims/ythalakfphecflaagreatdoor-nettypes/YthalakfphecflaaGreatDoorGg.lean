/- Package net: an edit at a node. -/
import Derived.Test.YthalakfphecflaaGreatDoorHt
import Derived.Test.YthalakfphecflaaGreatDoorHs
import Derived.Deep.DeepCutAuto
namespace Go.Proofs.YthalakfphecflaaGreatDoor
namespace Gg
set_option linter.unusedVariables false
set_option linter.unusedSimpArgs false
open Go.ChangeShapes Go.WideShapes Go.ChangeAt Go.RowKit Cm Ka Kb Na Om Oa Oz Oc Og Oi Hm Ia Ic Ie Im Um Ua Ue Aa Ov Hc Hd Hi Hl Ho Hs Ht
open La (bel bel_drew errV_zero errV_ne own_ge own_grow own_below Lies)

/- an edit at a node that is none -/
set_option maxRecDepth 100000 in
set_option maxHeartbeats 2000000 in
theorem edit_no (X n cn : Nat) (t a b c : Int) (p : Option Addr) (w : World) (c0 : ∀ W, Below w.heap.size w W → W.cell? ⟨X, 0, none⟩ = some (.slice p n cn)) (hn : n ≤ 4) (ha : out n a) : Calls Tryz.prog 22 #[ptr X, evV (t, a, b, c)] w fun r w' => r = .returned (.iface 61 (.int .i64 1)) ∧ Below w.heap.size w w' := by
  have hB0 : Below w.heap.size w (w.alloc (.cells #[.int .i64 t, .int .i64 a, .int .i64 b, .int .i64 c] 30)) := (Below.refl _ _).alloc (Nat.le_refl _) _
  have hA0 := heap_alloc_new w (.cells #[.int .i64 t, .int .i64 a, .int .i64 b, .int .i64 c] 30)
  go_enter Tryz.func22, Tryz.ntmps22
  go_upto_region 1 with fail
  generalize w.alloc (.cells #[.int .i64 t, .int .i64 a, .int .i64 b, .int .i64 c] 30) = w0 at hB0 hA0 ⊢
  have HB0 := Hid.mk' hB0
  have y0 := blk_cell hA0 (i := 0) (u := .int .i64 t) rfl
  have y1 := blk_cell hA0 (i := 1) (u := .int .i64 a) rfl
  have y2 := blk_cell hA0 (i := 2) (u := .int .i64 b) rfl
  have y3 := blk_cell hA0 (i := 3) (u := .int .i64 c) rfl
  have C := doc_no X n cn a p w0 (c0 _ hB0) hn ha
  clear hB0 hA0 c0 ha
  go_wp2_with fail
  refine C.mono ?_
  rintro e w3 ⟨rfl, rfl⟩
  clear C
  go_wp2_with fail
  go_ret
  exact ⟨rfl, HB0.out⟩
set_option maxRecDepth 100000 in
set_option maxHeartbeats 2000000 in
theorem edit_yes (X n cn g i D : Nat) (t b c : Int) (S : Dq) (F : Nat → Prop) (w : World) (c0 : ∀ W, Below w.heap.size w W → W.cell? ⟨X, 0, none⟩ = some (.slice (some ⟨g, 0, none⟩) n cn)) (c1 : ∀ W, Below w.heap.size w W → W.cell? ⟨g, i, none⟩ = some (ptr D)) (hn : n ≤ 4) (hi : i < n) (h : DocAt w D S F) (ht : isEd t = true) :
    Calls Tryz.prog 22 #[ptr X, evV (t, i, b, c)] w fun r w' =>
      r = .returned (errV (if edE S ((i : Int) + 1) (t, i, b, c) ≠ 0 then edE S ((i : Int) + 1) (t, i, b, c) else runE S (edL S ((i : Int) + 1) (t, i, b, c)))) ∧
      ∃ F', DocAt w' D (if edE S ((i : Int) + 1) (t, i, b, c) ≠ 0 then S else runS S (edL S ((i : Int) + 1) (t, i, b, c))) F' ∧ Chg F w w' ∧ ∀ g, F' g → F g ∨ w.heap.size ≤ g := by
  have hw1 : Pm.isWho ((i : Int) + 1) = true := Ub.isWho_iff.2 (by omega)
  have hwr : IntKind.i64.wrap ((i : Int) + 1) = (i : Int) + 1 := wrap_in (by omega) (by omega)
  have HC : Hid (∀ W, Below w.heap.size w W → Calls Tryz.prog 42 #[evV (t, i, b, c), ptr D, .int .i64 ((i : Int) + 1)] W (EdPost W (edE S ((i : Int) + 1) (t, i, b, c)) (edL S ((i : Int) + 1) (t, i, b, c)))) := fun W hb => opsOf_any D S F _ t i b c W (h.below hb) hw1 ht
  have HM : Hid (edE S ((i : Int) + 1) (t, i, b, c) = 0 → ∀ x ∈ edL S ((i : Int) + 1) (t, i, b, c), x.2.2.1.size ≤ maxLen) := fun e => ed_max h.inv e
  have HD := Hid.mk' h
  have HX := Hid.mk' c0
  have HE := Hid.mk' c1
  generalize edE S ((i : Int) + 1) (t, i, b, c) = k at HC HM ⊢
  generalize edL S ((i : Int) + 1) (t, i, b, c) = L at HC HM ⊢
  have i4 : (i : Int) ≤ 4 := by omega
  clear c0 c1 h hw1 ht
  have hB0 : Below w.heap.size w (w.alloc (.cells #[.int .i64 t, .int .i64 i, .int .i64 b, .int .i64 c] 30)) := (Below.refl _ _).alloc (Nat.le_refl _) _
  have hA0 := heap_alloc_new w (.cells #[.int .i64 t, .int .i64 i, .int .i64 b, .int .i64 c] 30)
  go_enter Tryz.func22, Tryz.ntmps22
  go_upto_region 1 with fail
  generalize w.alloc (.cells #[.int .i64 t, .int .i64 i, .int .i64 b, .int .i64 c] 30) = w0 at hB0 hA0 ⊢
  have HB0 := Hid.mk' hB0
  have y0 := blk_cell hA0 (i := 0) (u := .int .i64 t) rfl
  have y1 := blk_cell hA0 (i := 1) (u := .int .i64 i) rfl
  have y2 := blk_cell hA0 (i := 2) (u := .int .i64 b) rfl
  have y3 := blk_cell hA0 (i := 3) (u := .int .i64 c) rfl
  have C := doc_yes X n cn g i D w0 (HX.out _ hB0) hn hi (HE.out _ hB0)
  clear hi
  go_wp2_with fail
  refine C.mono ?_
  rintro e w3 ⟨rfl, hw3⟩
  subst hw3
  have C1 := HC.out w3 HB0.out
  clear C hB0 hA0
  go_wp2_with fail
  refine C1.mono ?_
  rintro e w4 ⟨v, rfl, h1, h2, hb4⟩
  have HB4 : Hid (Below w.heap.size w w4) := bel HB0.out hb4
  by_cases hk : k = 0
  · subst hk
    have C2 := do_any D S F _ v L w4 (HD.out.below HB4.out) (OpsG.new (h1 rfl)) (fun g hg => ⟨hg.2, fun e => by have := HD.out.lt g e; have := HB0.out.size; have := hg.1; omega⟩) (HM.out rfl)
    obtain ⟨pv, nv, cv, rfl⟩ := EdPost.slice h1 h2
    rw [errV_zero]
    clear C1 h1 h2 hb4 y0 y1 y2 y3
    go_wp2_with fail
    refine C2.mono ?_
    rintro e w5 ⟨he, F', h5, h6, h7⟩
    subst he
    have HP : Hid (∃ F', DocAt w5 D (runS S L) F' ∧ Chg F w w5 ∧ ∀ g, F' g → F g ∨ w.heap.size ≤ g) := ⟨F', h5, (Chg.ofBelow HB4.out F).trans h6, fun g hg => (h7 g hg).imp id fun e => Nat.le_trans HB4.out.size e⟩
    obtain ⟨z, hz⟩ : ∃ z, z = errV (runE S L) := ⟨_, rfl⟩
    have HZ := Hid.mk' hz
    rw [← hz]
    clear h5 h6 h7 C2 hz
    go_wp2_with fail
    go_ret
    exact ⟨by rw [HZ.out]; rfl, HP.out⟩
  · have hv := h2 hk
    subst hv
    rw [errV_ne hk]
    have HK := Hid.mk' hk
    clear C1 h1 h2 hb4 hk y0 y1 y2 y3
    go_wp2_with fail
    go_ret
    exact ⟨by rw [errV_ne HK.out]; rfl, F, HD.out.below HB4.out, Chg.ofBelow HB4.out F, fun g hg => Or.inl hg⟩

theorem edit_any (X : Nat) (N : Nt) (F : Nat → Prop) (e : Ev) (w : World) (h : At w X N F) (he : isEd e.1 = true) : Calls Tryz.prog 22 #[ptr X, evV e] w fun r w' => r = .returned (errV (evE N e)) ∧ Left' w X F (evS N e) w' := by
  obtain ⟨t, a, b, c⟩ := e
  have h0 := h
  obtain ⟨vd, vu, E, Fd, m, hF⟩ := h
  obtain ⟨p, cn, rfl, _, _, hc⟩ := m.cellD
  have he' : isEd t = true := he
  by_cases ho : out N.ds.length a
  · have e1 : evE N (t, a, b, c) = 1 := by unfold evE; dsimp only; rw [if_pos he', if_pos ho]
    have e2 : evS N (t, a, b, c) = N := by unfold evS; dsimp only; rw [if_pos he', if_pos ho]
    rw [e1, e2, errV_ne (by decide)]
    refine (edit_no X _ cn t a b c p w (fun W hb => keep_cell hb (blk_cell m.blk (i := 0) rfl)) m.few ho).mono ?_
    rintro r w' ⟨rfl, hb⟩
    exact ⟨rfl, left_same h0 hb⟩
  · obtain ⟨i, rfl⟩ : ∃ i : Nat, a = i := ⟨a.toNat, by unfold out at ho; omega⟩
    have hi : i < N.ds.length := by unfold out at ho; omega
    obtain ⟨g, rfl, hg⟩ := hc (by omega)
    have e1 : evE N (t, i, b, c) = if edE (dq N i) ((i : Int) + 1) (t, i, b, c) ≠ 0 then edE (dq N i) ((i : Int) + 1) (t, i, b, c) else runE (dq N i) (edL (dq N i) ((i : Int) + 1) (t, i, b, c)) := by
      unfold evE; dsimp only; rw [if_pos he', if_neg ho]; rfl
    have e2 : evS N (t, i, b, c) = if edE (dq N i) ((i : Int) + 1) (t, i, b, c) ≠ 0 then N else { N with ds := N.ds.set i (runS (dq N i) (edL (dq N i) ((i : Int) + 1) (t, i, b, c))) } := by
      unfold evS; dsimp only; rw [if_pos he', if_neg ho]; rfl
    rw [e1, e2]
    refine (edit_yes X _ cn g i (E i) t b c (dq N i) (Fd i) w (fun W hb => keep_cell hb (blk_cell m.blk (i := 0) rfl)) (fun W hb => keep_cell hb (hg i hi)) m.few hi (m.docs.at' i hi) he').mono ?_
    rintro r w' ⟨rfl, G, h1, h2, h3⟩
    refine ⟨rfl, ?_⟩
    obtain ⟨q1, q2, q3⟩ := m.turn hi h1 h2 h3
    by_cases hk : edE (dq N i) ((i : Int) + 1) (t, i, b, c) ≠ 0
    · rw [if_pos hk] at q1 q3 ⊢
      have eN : ({ N with ds := N.ds.set i (dq N i) } : Nt) = N := by
        have : N.ds.set i (dq N i) = N.ds := by
          apply List.ext_getElem?
          intro j
          rw [List.getElem?_set]
          by_cases hj : i = j
          · subst hj; rw [if_pos rfl, if_pos hi]; unfold dq; rw [List.getD_eq_getElem?_getD, List.getElem?_eq_getElem hi]; rfl
          · rw [if_neg hj]
        rw [this]
      rw [eN] at q1
      have e9 : (N.ds.set i (dq N i)).length = N.ds.length := List.length_set
      rw [e9] at q3
      exact left_mk hF q1 q2 q3
    · rw [if_neg hk] at q1 q3 ⊢
      exact left_mk hF q1 q2 q3

end Gg
end Go.Proofs.YthalakfphecflaaGreatDoor
