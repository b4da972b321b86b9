/- What compareDots and compareMarks answer. -/
import Derived.Test.YtcmoajlcmeimiaaDoorNb
import Derived.Deep.RegionHeld3
namespace Go.Proofs.YtcmoajlcmeimiaaDoor
namespace Nc
set_option linter.unusedVariables false
open Go.ChangeShapes Go.WideShapes Go.ChangeAt Go.RowKit Cm Ka Kb Na Nb
open La (bel bel_drew errV_zero errV_ne own_ge own_grow own_below)

/- what a list of two ints holds that has just been laid -/
theorem or_laid (a b : Int) (W : World) (n : Nat) (t : TypeId) (hn : n = W.heap.size) :
    Calls Tryd.prog 65 #[.slice (some ⟨n, 0, none⟩) 2 2] (W.alloc (.cells #[.int .i64 a, .int .i64 b] t)).drew fun e w' => e = .returned (.int .i64 (or2 a b)) ∧ w' = (W.alloc (.cells #[.int .i64 a, .int .i64 b] t)).drew := by
  subst hn
  have hg : (W.alloc (.cells #[.int .i64 a, .int .i64 b] t)).drew.heap[W.heap.size]? = some (.cells #[.int .i64 a, .int .i64 b] t) := heap_alloc_new W (.cells #[.int .i64 a, .int .i64 b] t)
  exact or_any W.heap.size a b _ (by simp only [World.cell?, hg]; rfl) (by simp only [World.cell?, hg]; rfl)

set_option maxHeartbeats 1000000 in
theorem compareDots_any (a1 a2 b1 b2 : Int) (w : World) :
    Calls Tryd.prog 67 #[.agg #[.int .i64 a1, .int .i64 a2], .agg #[.int .i64 b1, .int .i64 b2]] w fun e w' => e = .returned (.int .i64 (dcmp (a1, a2) (b1, b2))) ∧ Below w.heap.size w w' := by
  have HD : Hid (dcmp (a1, a2) (b1, b2) = or2 (icmp a1 b1) (icmp a2 b2)) := rfl
  have HB : Hid (∀ O1 O2 O3, Below w.heap.size w (((w.alloc O1).alloc O2).alloc O3).drew) := fun O1 O2 O3 => ((((Below.refl _ w).alloc (Nat.le_refl _) O1).alloc (by simp) O2).alloc (by simp; omega) O3).drew
  rw [HD.out]
  clear HD
  go_enter Tryd.func67, Tryd.ntmps67
  go_wp2_with fail
  go_region_held3 (fun W => W.cell? ⟨w.heap.size, 0, none⟩ = some (.int .i64 a1) ∧ W.cell? ⟨w.heap.size, 1, none⟩ = some (.int .i64 a2) ∧ W.cell? ⟨w.heap.size + 1, 0, none⟩ = some (.int .i64 b1) ∧ W.cell? ⟨w.heap.size + 1, 1, none⟩ = some (.int .i64 b2)) (go_keep) (first
    | (go_at_call 85; refine (icompare_any _ _ _).mono ?_; rintro e w7 ⟨rfl, hw⟩; have hw2 := hw.symm; subst hw2; clear hw)
    | (go_at_call 65; refine (or_laid (icmp a1 b1) (icmp a2 b2) _ _ _ ?_).mono ?_; (simp); rintro e w7 ⟨rfl, hw⟩; have hw2 := hw.symm; subst hw2; clear hw))
  all_goals
    go_wp2_with fail
    go_ret
    exact ⟨rfl, HB.out _ _ _⟩

theorem keep_cell {W W' : World} {p : Addr} {v : Value} (hb : Below W.heap.size W W') (h : W.cell? p = some v) : W'.cell? p = some v := (hb.cell (World.block_lt_of_cell? _ _ h)).trans h

theorem or_laid0 (a b : Int) (W : World) (n : Nat) (t : TypeId) (hn : n = W.heap.size) :
    Calls Tryd.prog 65 #[.slice (some ⟨n, 0, none⟩) 2 2] (W.alloc (.cells #[.int .i64 a, .int .i64 b] t)) fun e w' => e = .returned (.int .i64 (or2 a b)) ∧ w' = (W.alloc (.cells #[.int .i64 a, .int .i64 b] t)) := by
  subst hn
  have hg : (W.alloc (.cells #[.int .i64 a, .int .i64 b] t)).heap[W.heap.size]? = some (.cells #[.int .i64 a, .int .i64 b] t) := heap_alloc_new W (.cells #[.int .i64 a, .int .i64 b] t)
  exact or_any W.heap.size a b _ (by simp only [World.cell?, hg]; rfl) (by simp only [World.cell?, hg]; rfl)

set_option maxHeartbeats 1000000 in
theorem compareMarks_any (pa : ByteArray) (a1 a2 : Int) (pb : ByteArray) (b1 b2 : Int) (w : World) :
    Calls Tryd.prog 36 #[.agg #[.string pa, .int .i64 a1, .int .i64 a2], .agg #[.string pb, .int .i64 b1, .int .i64 b2]] w fun e w' => e = .returned (.int .i64 (mcmp (pa, (a1, a2)) (pb, (b1, b2)))) ∧ Below w.heap.size w w' := by
  have HD : Hid (mcmp (pa, (a1, a2)) (pb, (b1, b2)) = or2 (cmp pa pb) (dcmp (a1, a2) (b1, b2))) := rfl
  have HB : Hid (∀ O1 O2, Below w.heap.size w ((w.alloc O1).alloc O2).drew) := fun O1 O2 => (((Below.refl _ w).alloc (Nat.le_refl _) O1).alloc (by simp) O2).drew
  rw [HD.out]
  clear HD
  go_enter Tryd.func36, Tryd.ntmps36
  go_wp2_with fail
  go_region_held3 (fun W => W.cell? ⟨w.heap.size, 0, none⟩ = some (.string pa) ∧ W.cell? ⟨w.heap.size, 1, none⟩ = some (.int .i64 a1) ∧ W.cell? ⟨w.heap.size, 2, none⟩ = some (.int .i64 a2) ∧ W.cell? ⟨w.heap.size + 1, 0, none⟩ = some (.string pb) ∧ W.cell? ⟨w.heap.size + 1, 1, none⟩ = some (.int .i64 b1) ∧ W.cell? ⟨w.heap.size + 1, 2, none⟩ = some (.int .i64 b2)) (first | (go_keep; done) | (refine ⟨keep_cell hb7 ?_, keep_cell hb7 ?_, keep_cell hb7 ?_, keep_cell hb7 ?_, keep_cell hb7 ?_, keep_cell hb7 ?_⟩ <;> (go_split_ands; assumption))) (first
    | (go_at_call 66; refine (compare_any _ _ _).mono ?_; rintro e w6 ⟨rfl, hw⟩; have hw2 := hw.symm; subst hw2; clear hw)
    | (go_at_call 67; refine (compareDots_any _ _ _ _ _).mono ?_; rintro e w7 ⟨rfl, hb7⟩; have HB7 : Hid (Below w.heap.size w w7) := bel (HB.out _ _) hb7)
    | (go_at_call 65; refine (or_laid0 (cmp pa pb) (dcmp (a1, a2) (b1, b2)) _ _ _ ?_).mono ?_; (simp); rintro e w8 ⟨rfl, hw⟩; have hw2 := hw.symm; subst hw2; clear hw))
  all_goals
    go_wp2_with fail
    go_ret
    exact ⟨rfl, HB7.out.alloc HB7.out.size _⟩

end Nc
end Go.Proofs.YtcmoajlcmeimiaaDoor
