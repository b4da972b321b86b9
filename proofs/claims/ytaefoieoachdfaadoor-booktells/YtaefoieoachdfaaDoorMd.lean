/- What the reference's set answers of an empty book; and its Write and Strike. -/
import Derived.Test.YtaefoieoachdfaaDoorMc
namespace Go.Proofs.YtaefoieoachdfaaDoor
namespace Md
set_option linter.unusedVariables false
open Go.ChangeShapes Go.WideShapes Go.ChangeAt Go.RowKit Bm Ka Kb La Lb Lc Ld Le Lf Lg Lh Li Lj Lk Lp Mb Mc

theorem leaf_new2 (w : World) (o : Obj) (x : Leaf) (t : TypeId) : ∀ j u, (flat [x])[j]? = some u → ((w.alloc o).alloc (.cells #[.string x.1, .int .i64 x.2.1, .bool x.2.2] t)).cell? ((⟨w.heap.size + 1, 0, none⟩ : Addr).add j) = some u := by
  have e : (w.alloc o).heap.size = w.heap.size + 1 := by simp
  have := leaf_new (w.alloc o) x t
  rw [e] at this
  exact this

set_option maxRecDepth 100000 in
set_option maxHeartbeats 4000000 in
theorem set_none (sx : ByteArray) (nx : Int) (bx : Bool) (w : World) :
    Calls Tryd.prog 42 #[.slice none 0 0, .int .i64 0, .bool false, .agg #[.string sx, .int .i64 nx, .bool bx]] w fun e w' => ∃ v, e = .returned (.tuple #[v, .int .i64 0]) ∧ BookNew w.heap.size w' v [(sx, nx, bx)] ∧ Below w.heap.size w w' := by
  obtain ⟨i0, hi0, hz0, hz1, hz2⟩ := info_parts infoLeaf
  have HB1 : Hid (Below w.heap.size w (w.alloc (.cells #[.string sx, .int .i64 nx, .bool bx] 39))) := (Below.refl _ w).alloc (Nat.le_refl _) _
  have hap := fun W => run_append_owned_none (P := Tryd.prog) (w := W) w.heap.size 22 22 39 i0 3 Tryd.underlying22 hi0 (.slice none 0 0) 0 [] (World.ownsRow_nil W _ _ _)
  go_enter Tryd.func42, Tryd.ntmps42
  go_wp2_with (first
    | (at_builtin; refine Lib.wpList_append_run _ rfl (.tmp 18) (.tmp 21) _ _ rfl _ _ rfl rfl _ _ (hap _) ?_)
    | (at_builtin; refine wpList_append_own_at _ rfl (.tmp 23) (.tmp 25) 22 rfl (w.alloc (.cells #[.string sx, .int .i64 nx, .bool bx] 39)).heap.size 39 i0 (.agg #[.string ⟨#[]⟩, .int .i64 0, .bool false]) 3 32 Tryd.underlying22 hi0 hz0 hz1 hz2 rfl (by decide) (.slice none 0 0) 0 [] rfl (World.ownsRow_nil _ _ _ _) ⟨w.heap.size + 1, 0, none⟩ 1 1 (flat [(sx, nx, bx)]) rfl rfl (leaf_new2 w _ (sx, nx, bx) _) (flat_one _) (by unfold maxLen; omega) (by omega) (by simp) ?_; intro v2 w2 hown2 hgrow2 _ hat2; have HW2 : Hid (w2.ownsRow (w.alloc (.cells #[.string sx, .int .i64 nx, .bool bx] 39)).heap.size 39 3 v2 1 (flat [(sx, nx, bx)])) := hown2; have HB3 : Hid (Below w.heap.size w w2) := (HB1.out.alloc HB1.out.size _).grown hgrow2 (by simp; omega) (fun k hk => by cases hk); have hap2 := run_append_owned_none (P := Tryd.prog) (w := w2) (w.alloc (.cells #[.string sx, .int .i64 nx, .bool bx] 39)).heap.size 22 22 39 i0 3 Tryd.underlying22 hi0 v2 _ _ HW2.out; clear hown2 hgrow2 hat2)
    | (at_builtin; refine Lib.wpList_append_run _ rfl (.tmp 30) (.tmp 33) _ _ rfl _ _ rfl rfl _ _ hap2 ?_))
  go_ret2
  exact ⟨_, rfl, ⟨own_at HW2.out, (Lies.own HW2.out).mono HB1.out.size⟩, HB3.out⟩

set_option maxRecDepth 100000 in
set_option maxHeartbeats 4000000 in
theorem set_empty (a : Addr) (c : Nat) (sx : ByteArray) (nx : Int) (bx : Bool) (w : World) (hcm : c ≤ maxLen) :
    Calls Tryd.prog 42 #[.slice (some a) 0 c, .int .i64 0, .bool false, .agg #[.string sx, .int .i64 nx, .bool bx]] w fun e w' => ∃ v, e = .returned (.tuple #[v, .int .i64 0]) ∧ BookNew w.heap.size w' v [(sx, nx, bx)] ∧ Below w.heap.size w w' := by
  obtain ⟨i0, hi0, hz0, hz1, hz2⟩ := info_parts infoLeaf
  unfold maxLen at hcm
  have hcz : (0 : Int) ≤ c := by omega
  have HB1 : Hid (Below w.heap.size w (w.alloc (.cells #[.string sx, .int .i64 nx, .bool bx] 39))) := (Below.refl _ w).alloc (Nat.le_refl _) _
  go_enter Tryd.func42, Tryd.ntmps42
  go_wp2_with (first
    | (at_builtin; refine wpList_append_own_at _ rfl (.tmp 18) (.tmp 21) 22 rfl (w.alloc (.cells #[.string sx, .int .i64 nx, .bool bx] 39)).heap.size 39 i0 (.agg #[.string ⟨#[]⟩, .int .i64 0, .bool false]) 3 32 Tryd.underlying22 hi0 hz0 hz1 hz2 rfl (by decide) (.slice none 0 0) 0 [] rfl (World.ownsRow_nil _ _ _ _) a 0 c [] rfl rfl (fun j u hu => by simp at hu) (fun u hu => by simp at hu) (by unfold maxLen; omega) (by omega) (Nat.le_refl _) ?_; intro v1 w1 hown1 hgrow1 _ hat1; have HW1 : Hid (w1.ownsRow (w.alloc (.cells #[.string sx, .int .i64 nx, .bool bx] 39)).heap.size 39 3 v1 0 []) := hown1; have HB2 : Hid (Below (w.alloc (.cells #[.string sx, .int .i64 nx, .bool bx] 39)).heap.size (w.alloc (.cells #[.string sx, .int .i64 nx, .bool bx] 39)) w1) := (Below.refl _ _).grown hgrow1 (Nat.le_refl _) (fun k hk => by cases hk); have d := new_cell (x := (sx, nx, bx)) HB2.out; simp only at d; obtain ⟨d0, d1, d2⟩ := d; clear hown1 hgrow1 hat1)
    | (at_builtin; refine wpList_append_own_at _ rfl (.tmp 23) (.tmp 25) 22 rfl (w.alloc (.cells #[.string sx, .int .i64 nx, .bool bx] 39)).heap.size 39 i0 (.agg #[.string ⟨#[]⟩, .int .i64 0, .bool false]) 3 32 Tryd.underlying22 hi0 hz0 hz1 hz2 rfl (by decide) v1 _ _ rfl (HW1.out.alloc _) ⟨w1.heap.size, 0, none⟩ 1 1 (flat [(sx, nx, bx)]) rfl rfl (leaf_new w1 (sx, nx, bx) _) (flat_one _) (by unfold maxLen; omega) (by omega) (by have := HB2.out.size; simp at this ⊢; omega) ?_; intro v2 w2 hown2 hgrow2 _ hat2; have HW2 : Hid (w2.ownsRow (w.alloc (.cells #[.string sx, .int .i64 nx, .bool bx] 39)).heap.size 39 3 v2 1 (flat [(sx, nx, bx)])) := hown2; have HB3 : Hid (Below (w.alloc (.cells #[.string sx, .int .i64 nx, .bool bx] 39)).heap.size (w.alloc (.cells #[.string sx, .int .i64 nx, .bool bx] 39)) w2) := own_grow HW1.out (HB2.out.alloc HB2.out.size _) hgrow2 (by have := HB2.out.size; simp at this ⊢; omega); clear hown2 hgrow2 hat2 d0 d1 d2)
    | (at_builtin; refine wpList_append_own_at _ rfl (.tmp 30) (.tmp 33) 22 rfl (w.alloc (.cells #[.string sx, .int .i64 nx, .bool bx] 39)).heap.size 39 i0 (.agg #[.string ⟨#[]⟩, .int .i64 0, .bool false]) 3 32 Tryd.underlying22 hi0 hz0 hz1 hz2 rfl (by decide) v2 _ _ rfl HW2.out a 0 c [] rfl rfl (fun j u hu => by simp at hu) (fun u hu => by simp at hu) (by unfold maxLen; omega) (by omega) HB3.out.size ?_; intro v3 w3 hown3 hgrow3 _ hat3; have HW3 : Hid (w3.ownsRow (w.alloc (.cells #[.string sx, .int .i64 nx, .bool bx] 39)).heap.size 39 3 v3 1 (flat [(sx, nx, bx)])) := (by have h9 := hown3; rw [List.append_nil, Nat.add_zero] at h9; exact h9); have HB4 : Hid (Below w.heap.size w w3) := bel HB1.out (own_grow HW2.out HB3.out hgrow3 HB3.out.size); clear hown3 hgrow3 hat3))
  go_ret2
  exact ⟨_, rfl, ⟨own_at HW3.out, (Lies.own HW3.out).mono HB1.out.size⟩, HB4.out⟩

/- set, of a leaf that is new -/
theorem set_f (v : Value) (l : List Leaf) (i : Nat) (sx : ByteArray) (nx : Int) (bx : Bool) (w : World) (h : BookAt w v l) (hi : i ≤ l.length) (hn : l.length ≤ 300) :
    Calls Tryd.prog 42 #[v, .int .i64 i, .bool false, .agg #[.string sx, .int .i64 nx, .bool bx]] w fun e w' => ∃ v', e = .returned (.tuple #[v', .int .i64 (if 300 ≤ l.length then 4 else 0)]) ∧ BookNew w.heap.size w' v' (if 300 ≤ l.length then [] else l.take i ++ (sx, nx, bx) :: l.drop i) ∧ Below w.heap.size w w' := by
  obtain ⟨p, c, rfl, hlf, hc, hcm, hpc⟩ := h
  by_cases h300 : 300 ≤ l.length
  · rw [if_pos h300, if_pos h300]
    refine (set_full p _ c i sx nx bx w h300 (by omega)).mono ?_
    rintro e w' ⟨rfl, hb⟩
    exact ⟨_, rfl, BookNew.nil _ _, hb⟩
  · rw [if_neg h300, if_neg h300]
    by_cases hl0 : l = []
    · subst hl0
      obtain rfl : i = 0 := by simpa using hi
      cases p with
      | none => rw [hpc rfl]; exact set_none sx nx bx w
      | some a => exact set_empty a c sx nx bx w hcm
    · obtain ⟨b, o, rfl, hcc⟩ := hlf.some hl0
      exact set_new b o _ c i l sx nx bx w rfl hcc hi (by omega) hc hcm
/- set, of a leaf that is there -/
theorem set_t (v : Value) (l : List Leaf) (i : Nat) (sx : ByteArray) (nx : Int) (bx : Bool) (w : World) (h : BookAt w v l) (hi : i < l.length) (hn : l.length ≤ 300) :
    Calls Tryd.prog 42 #[v, .int .i64 i, .bool true, .agg #[.string sx, .int .i64 nx, .bool bx]] w fun e w' => ∃ v', e = .returned (.tuple #[v', .int .i64 0]) ∧ BookNew w.heap.size w' v' (l.take i ++ (sx, nx, bx) :: l.drop (i + 1)) ∧ Below w.heap.size w w' := by
  obtain ⟨p, c, rfl, hlf, hc, hcm, hpc⟩ := h
  obtain ⟨b, o, rfl, hcc⟩ := hlf.some (by rintro rfl; simp at hi)
  exact set_has b o _ c i l sx nx bx w rfl hcc hi hn hc hcm

end Md
end Go.Proofs.YtaefoieoachdfaaDoor
