/- Package stat: the author of a place, and runs that are lengthened. -/
import Derived.Test.YtiiiineipajhmaaSq1
import Derived.Test.YtiiiineipajhmaaJ4
import Derived.Test.YtiiiineipajhmaaJ2
import Derived.RegionTactic
import Derived.BigRegion
import Derived.Deep.QuietTactic
import Derived.BigQuiet
import Derived.Laws.OwnMore
namespace Go.Proofs.Ytiiiineipajhmaa
namespace Sq2
set_option linter.unusedVariables false
open Go.ChangeShapes Go.WideShapes Go.ChangeAt Go.RowKit Ka Kb Sq1
open Na (flatD flatD_append flatD_length flatD_at flatD_one cells2)
open La (bel bel_drew errV_zero errV_ne own_ge own_grow own_below)

theorem wrap_in {x : Int} (h1 : -1000000000 ≤ x) (h2 : x ≤ 1000000000) : IntKind.i64.wrap x = x := by
  rw [IntKind.wrap_i64]; omega
theorem bel_dr {B : Nat} {a w : World} (h : Below B a w) : Below B a w.drew := ⟨h.os, h.tape, h.output, h.size, h.block⟩

theorem author_any (s : ByteArray) (w : World) (hs : s.size ≤ maxLen) (h : Pm.chk s.toList = 0) :
    Calls Try.prog 21 #[.string s] w fun e w' => e = .returned (.tuple #[.int .i64 (Pm.whoOf s.toList), .nilIface]) ∧ w' = w := by
  have hz : 0 < s.size := by
    have := (Bm.chk_pos h).1; rw [len_eq] at this; omega
  have H : Hid (Pm.chk s.toList = 0) := h
  clear h
  go_enter Try.func21, Try.ntmps21
  go_wp2_with (first | (go_at_call 35; refine (check_any _ _ hs).mono ?_; rintro e w' ⟨rfl, rfl⟩; rw [H.out, errV, if_pos rfl]) | (go_at_call 36; refine (authorOf_any _ _ hz hs).mono ?_; rintro e w' ⟨rfl, rfl⟩))
  go_ret2
  exact ⟨rfl, rfl⟩

theorem info2 : (Try.prog.info? 46).map (fun i => (i.zero, i.size, i.bytes)) = some (some (.agg #[.int .i64 0, .int .i64 0]), 2, 16) := by kernel_rfl
def Own (B : Nat) (w : World) (v : Value) (r : List Pr) : Prop := w.ownsRow B 46 2 v r.length (flatD r)
theorem Own.nil (B : Nat) (w : World) : Own B w (.slice none 0 0) [] := World.ownsRow_nil _ _ _ _
theorem Own.shape {B : Nat} {w : World} {v : Value} {r : List Pr} (h : Own B w v r) : ∃ p c, v = .slice p r.length c ∧ (0 < r.length → ∃ g, p = some ⟨g, 0, none⟩ ∧ B ≤ g) := by
  rcases h.2 with ⟨rfl, h0⟩ | ⟨g, cap, cur, rfl, hg, _⟩
  · exact ⟨none, 0, by rw [h0], fun h => by omega⟩
  · exact ⟨_, _, rfl, fun _ => ⟨g, rfl, hg⟩⟩
theorem Own.cells {B : Nat} {w : World} {g c n : Nat} {r : List Pr} (h : Own B w (.slice (some ⟨g, 0, none⟩) n c) r) (hn : r.length = n) {j : Nat} (hj : j < n) :
    w.cell? ⟨g, j * 2, none⟩ = some (.int .i64 (r.getD j zp).1) ∧ w.cell? ⟨g, j * 2 + 1, none⟩ = some (.int .i64 (r.getD j zp).2) := by
  unfold Own at h
  rw [hn] at h
  have hf := flatD_at (l := r) (j := j) (by omega)
  rw [h.cellAt (j * 2) (by omega), h.cellAt (j * 2 + 1) (by omega)]
  exact hf
theorem set_flat : ∀ (r : List Pr) (j : Nat) (y : Int), j < r.length → (flatD r).set (j * 2 + 1) (.int .i64 y) = flatD (r.set j ((r.getD j zp).1, y))
  | [], j, y, h => absurd h (by simp)
  | x :: r, 0, y, h => by simp [flatD, cells2]
  | x :: r, j + 1, y, h => by
    have := set_flat r j y (by simpa using h)
    have e : flatD (x :: r) = .int .i64 x.1 :: .int .i64 x.2 :: flatD r := by simp [flatD, cells2]
    rw [e, show (j + 1) * 2 + 1 = (j * 2 + 1) + 1 + 1 by omega, List.set_cons_succ, List.set_cons_succ, this]
    simp [flatD, cells2]
theorem two_new (w : World) (a b : Int) (t : TypeId) : ∀ j u, [Value.int .i64 a, .int .i64 b][j]? = some u → (w.alloc (.cells #[.int .i64 a, .int .i64 b] t)).cell? ((⟨w.heap.size, 0, none⟩ : Addr).add j) = some u := by
  intro j u hu
  have h2 : (w.alloc (.cells #[.int .i64 a, .int .i64 b] t)).heap[w.heap.size]? = some (.cells #[.int .i64 a, .int .i64 b] t) := heap_alloc_new w _
  rw [Addr.add_lit, Nat.zero_add]
  simp only [World.cell?, h2]
  simpa using hu
theorem Own.more {B : Nat} {w : World} {v : Value} {r : List Pr} {a : Int} (h : w.ownsRow B 46 2 v (r.length + 1) (flatD r ++ [.int .i64 a, .int .i64 1])) : Own B w v (r ++ [(a, 1)]) := by
  unfold Own; rw [flatD_append, List.length_append]; exact h

set_option maxRecDepth 100000 in
set_option maxHeartbeats 4000000 in
theorem lengthened_any (B : Nat) (v : Value) (r : List Pr) (a : Int) (w : World) (h : Own B w v r) (hB : B ≤ w.heap.size) (hl : r.length ≤ 1048576) (hm : ∀ j, 0 ≤ (r.getD j zp).2 ∧ (r.getD j zp).2 ≤ 1048576) :
    Calls Try.prog 22 #[v, .int .i64 a] w fun e w' => ∃ v', e = .returned v' ∧ Own B w' v' (addR r a) ∧ Below B w w' := by
  obtain ⟨i0, hi, hz0, hz1, hz2⟩ := info_parts info2
  have HO : Hid (Own B w v r) := h
  obtain ⟨p, c, rfl, hp⟩ := h.shape
  obtain ⟨n, hn⟩ : ∃ n, n = r.length := ⟨_, rfl⟩
  rw [← hn] at hp hl HO ⊢
  have HN : Hid (r.length = n) := hn.symm
  clear h
  by_cases h0 : n = 0
  · have HG : Hid (addR r a = r ++ [(a, 1)]) := by
      unfold Hid addR; rw [if_neg]; rw [List.eq_nil_of_length_eq_zero (by omega : r.length = 0)]; simp [goesOn]
    subst h0
    clear hn hp hm
    go_enter Try.func22, Try.ntmps22
    go_wp2_with (at_builtin; refine wpList_append_own_at _ rfl (.tmp 20) (.tmp 23) 41 rfl B 46 i0 (.agg #[.int .i64 0, .int .i64 0]) 2 16 Try.underlying41 hi hz0 hz1 hz2 rfl (by decide) (.slice p 0 c) _ _ rfl (World.ownsRow.alloc HO.out _) ⟨w.heap.size, 0, none⟩ 1 1 [.int .i64 a, .int .i64 1] rfl rfl (two_new _ _ _ _) (by simp [Value.oneCell']) (by unfold maxLen; rw [HN.out]; omega) (by rw [HN.out]; omega) (by simp; omega) ?_; intro v9 w9 hown9 hgrow9 _ hat9; have HO9 : Hid (Own B w9 v9 (addR r a)) := (by rw [HG.out]; exact Own.more hown9); have HB9 : Hid (Below B w w9) := (own_grow HO.out ((Below.refl B w).alloc hB _) hgrow9 (by simp; omega)); clear hown9 hgrow9 hat9)
    go_ret
    exact ⟨_, rfl, HO9.out, HB9.out⟩
  · obtain ⟨m, rfl⟩ : ∃ m, n = m + 1 := ⟨n - 1, by omega⟩
    obtain ⟨g, rfl, hg⟩ := hp (by omega)
    obtain ⟨c1, c2⟩ := HO.out.cells HN.out (show m < m + 1 by omega)
    have hfr : w.frozen? ⟨g, m * 2 + 1, none⟩ = false := by
      have := HO.out; unfold Own at this; rw [HN.out] at this; exact this.frozenAt _
    have hmm := hm m
    have HL : Hid (lastP r = r.getD m zp) := by unfold Hid lastP; rw [HN.out]; rfl
    obtain ⟨x, hx⟩ : ∃ x, x = r.getD m zp := ⟨_, rfl⟩
    rw [← hx] at c1 c2 hmm HL
    have HX : Hid (x = r.getD m zp) := hx
    obtain ⟨xa, xm⟩ := x
    simp only at c1 c2 hmm
    obtain ⟨hm0, hm1⟩ := hmm
    clear hx hm hp hn h0
    cases hq : (xa == a)
    · have HG : Hid (addR r a = r ++ [(a, 1)]) := by
        unfold Hid addR; rw [if_neg]; simp only [goesOn, HL.out]; simp at hq ⊢; intro _; exact hq
      have hq2 : (xa != a) = true := by rw [bne, hq]; rfl
      go_enter Try.func22, Try.ntmps22
      go_wp2_with (at_builtin; refine wpList_append_own_at _ rfl (.tmp 20) (.tmp 23) 41 rfl B 46 i0 (.agg #[.int .i64 0, .int .i64 0]) 2 16 Try.underlying41 hi hz0 hz1 hz2 rfl (by decide) (.slice (some ⟨g, 0, none⟩) (m + 1) c) _ _ rfl (World.ownsRow.alloc HO.out _) ⟨w.heap.size, 0, none⟩ 1 1 [.int .i64 a, .int .i64 1] rfl rfl (two_new _ _ _ _) (by simp [Value.oneCell']) (by unfold maxLen; rw [HN.out]; omega) (by rw [HN.out]; omega) (by simp; omega) ?_; intro v9 w9 hown9 hgrow9 _ hat9; have HO9 : Hid (Own B w9 v9 (addR r a)) := (by rw [HG.out]; exact Own.more hown9); have HB9 : Hid (Below B w w9) := (own_grow HO.out ((Below.refl B w).alloc hB _) hgrow9 (by simp; omega)); clear hown9 hgrow9 hat9)
      go_ret
      exact ⟨_, rfl, HO9.out, HB9.out⟩
    · have HG : Hid (addR r a = r.set m (xa, xm + 1)) := by
        have e : xa = a := by simpa using hq
        unfold Hid addR
        rw [if_pos, HN.out, HL.out]; · rfl
        simp only [goesOn, HL.out, e]; simp
        rintro rfl; have := HN.out; simp at this
      have HO2 : Hid (Own B (w.setCell ⟨g, m * 2 + 1, none⟩ (.int .i64 (xm + 1))) (.slice (some ⟨g, 0, none⟩) (m + 1) c) (addR r a)) := by
        unfold Hid; rw [HG.out]
        have h1 := HO.out
        unfold Own at h1 ⊢
        rw [List.length_set, HN.out]
        rw [HN.out] at h1
        have h2 := (h1.stored (m * 2 + 1) (.int .i64 (xm + 1))).1
        rw [set_flat r m (xm + 1) (by rw [HN.out]; omega), ← HX.out] at h2
        exact h2
      have HB2 : Hid (Below B w (w.setCell ⟨g, m * 2 + 1, none⟩ (.int .i64 (xm + 1)))) := (Below.refl B w).setCell hg _
      have hq2 : (xa != a) = false := by rw [bne, hq]; rfl
      have hwr : IntKind.i64.wrap (xm + 1) = xm + 1 := wrap_in (by omega) (by omega)
      go_enter Try.func22, Try.ntmps22
      go_wp2
      go_region
      go_wp2
      go_ret
      exact ⟨_, rfl, HO2.out, bel_dr HB2.out⟩

end Sq2
end Go.Proofs.Ytiiiineipajhmaa
