/- What slices.Clone, slices.Grow and slices.Concat answer, of leafs. -/
import Derived.Test.YtaefoieoachdfaaLg
import Derived.Lib.AppendZeros
namespace Go.Proofs.Ytaefoieoachdfaa
namespace Lh
set_option linter.unusedVariables false
open Go.ChangeShapes Go.WideShapes Go.ChangeAt Go.RowKit Bm Ka Kb La Lb Lc Ld Le Lf Lg

theorem infoLeaf : (Try.prog.info? 28).map (fun i => (i.zero, i.size, i.bytes)) = some (some (.agg #[.string ⟨#[]⟩, .int .i64 0, .bool false]), 3, 32) := by kernel_rfl

/- leafs that lie behind a slice's address -/
def Part (w : World) (v : Value) (l : List Leaf) : Prop := (v = .slice none 0 0 ∧ l = []) ∨ ∃ ad c, v = .slice (some ad) l.length c ∧ ∀ i u, (flat l)[i]? = some u → w.cell? (ad.add i) = some u
theorem Part.below {w w' : World} {v : Value} {l : List Leaf} (h : Part w v l) (hb : Below w.heap.size w w') : Part w' v l := by
  rcases h with h | ⟨ad, c, h1, h2⟩
  · exact Or.inl h
  · exact Or.inr ⟨ad, c, h1, fun i u hu => (hb.cell (World.block_lt_of_cell? _ _ (h2 i u hu))).trans (h2 i u hu)⟩
theorem Part.len {w : World} {v : Value} {l : List Leaf} (h : Part w v l) : ∃ p c, v = .slice p l.length c := by
  rcases h with ⟨rfl, rfl⟩ | ⟨ad, c, rfl, _⟩
  · exact ⟨none, 0, rfl⟩
  · exact ⟨some ad, c, rfl⟩
theorem LeafsIn.part {w : World} {b o : Nat} {l : List Leaf} (c : Nat) (h : ∀ j, j < l.length → At w b o j (l.getD j none0)) : Part w (.slice (some ⟨b, o, none⟩) l.length c) l :=
  Or.inr ⟨_, c, rfl, fun i u hu => by rw [Addr.add_lit]; exact at_flat h i u hu⟩

def cat (L : Nat → List Leaf) (k : Nat) : List Leaf := (List.range k).flatMap L
theorem cat_succ (L : Nat → List Leaf) (k : Nat) : cat L (k + 1) = cat L k ++ L k := by
  unfold cat; rw [List.range_succ, List.flatMap_append]; simp
theorem cat_le {L : Nat → List Leaf} {i j : Nat} (h : i ≤ j) : (cat L i).length ≤ (cat L j).length := by
  induction h with
  | refl => exact Nat.le_refl _
  | step _ ih => rw [cat_succ, List.length_append]; omega

set_option maxHeartbeats 1000000 in
theorem clone_any (b o n c : Nat) (l : List Leaf) (w : World) (hl : l.length = n) (hn2 : n ≤ 1048576) (hc : ∀ j, j < l.length → At w b o j (l.getD j none0)) :
    Calls Try.prog 37 #[.slice (some ⟨b, o, none⟩) n c] w fun e w' => ∃ v, e = .returned v ∧ w'.ownsRow w.heap.size 28 3 v n (flat l) ∧ Below w.heap.size w w' := by
  obtain ⟨i0, hi, hz0, hz1, hz2⟩ := info_parts infoLeaf
  have HN : Hid (∀ j u, (flat l)[j]? = some u → (w.alloc (.cells #[] 28)).cell? ((⟨b, o, none⟩ : Addr).add j) = some u) := by
    intro j u hu
    rw [Addr.add_lit]
    exact old_one _ _ _ _ (at_flat hc j u hu)
  have HL : Hid (l.length = n) := hl
  have HO : Hid ((w.alloc (.cells #[] 28)).ownsRow w.heap.size 28 3 (.slice (some ⟨w.heap.size, 0, none⟩) 0 0) 0 []) :=
    ⟨rfl, Or.inr ⟨w.heap.size, 0, #[], rfl, Nat.le_refl _, heap_alloc_new w _, Nat.le_refl _, by unfold maxLen; omega, rfl, rfl⟩⟩
  have heq : ∀ (a : Addr) (n c : Nat) (w : World), Sem.run Try.prog (binOp .eql 22 (.slice (some a) n c) (.slice none 0 0)) w = .ok (.bool false) w := fun _ _ _ _ => by kernel_rfl
  clear hc hl
  go_enter Try.func37, Try.ntmps37
  go_wp2_with (at_builtin; refine wpList_append_own_at _ rfl (.tmp 5) (.tmp 6) 22 rfl w.heap.size 28 i0 (.agg #[.string ⟨#[]⟩, .int .i64 0, .bool false]) 3 32 Try.underlying22 hi hz0 hz1 hz2 rfl (by decide) (.slice (some ⟨w.heap.size, 0, none⟩) 0 0) 0 [] rfl HO.out ⟨b, o, none⟩ n c (flat l) rfl (by rw [flat_length, HL.out]) HN.out (flat_one l) (by unfold maxLen; omega) (by omega) (by simp) ?_; intro v' w1 hown' hgrow _ hat; have HOW : Hid (w1.ownsRow w.heap.size 28 3 v' n (flat l)) := (by have h9 := hown'; rw [Nat.zero_add, List.nil_append] at h9; exact h9); have HGR : Hid (Below w.heap.size w w1) := ((Below.refl _ w).alloc (Nat.le_refl _) (.cells #[] 28)).grown hgrow (by simp) (by intro j hj; simp [Value.ownBlock] at hj; omega); clear hown' hgrow hat)
  go_ret
  exact ⟨_, rfl, HOW.out, HGR.out⟩

set_option maxHeartbeats 1000000 in
theorem grow_any (n : Nat) (w : World) (h0 : 0 < n) (hn : n ≤ 1048576) :
    Calls Try.prog 55 #[.slice none 0 0, .int .i64 n] w fun e w' => ∃ v, e = .returned v ∧ w'.ownsRow w.heap.size 28 3 v 0 [] ∧ Below w.heap.size w w' := by
  obtain ⟨i0, hi, hz0, hz1, hz2⟩ := info_parts infoLeaf
  have hr := Lib.run_append_nil_zeros (P := Try.prog) w 22 3 22 28 i0 _ .i64 .i64 Try.underlying22 Try.underlying3 hi hz0 n h0 (by rw [hz1]; decide) (by omega) (by rw [hz2]; omega)
  have hcp := grownCap_le_maxLen w n 0 28 (by unfold maxLen; omega)
  have hcg := grownCap_ge w n 0 28
  obtain ⟨cap, hcap⟩ : ∃ cap, cap = grownCap w n 0 28 := ⟨_, rfl⟩
  rw [← hcap] at hr hcp hcg
  have hcp2 : cap ≤ 9223372036854775807 := by unfold maxLen at hcp; omega
  obtain ⟨cells, hcells⟩ : ∃ cells, cells = Builtin.zeroCells (Value.agg #[.string ⟨#[]⟩, .int .i64 0, .bool false]).cells n ++ Builtin.zeroCells (Value.agg #[.string ⟨#[]⟩, .int .i64 0, .bool false]).cells (cap - n) := ⟨_, rfl⟩
  have hsz : cells.size = cap * 3 := by
    rw [hcells, Array.size_append, size_zeroCells, size_zeroCells]
    have : (Value.agg #[.string ⟨#[]⟩, .int .i64 0, .bool false]).cells.size = 3 := rfl
    rw [this]; omega
  rw [← hcells] at hr
  have HO : Hid ((w.drew.alloc (.cells cells 28)).ownsRow w.heap.size 28 3 (.slice (some ⟨w.heap.size, 0, none⟩) 0 cap) 0 []) :=
    ⟨rfl, Or.inr ⟨w.heap.size, cap, cells, rfl, Nat.le_refl _, heap_alloc_new w.drew _, Nat.zero_le _, hcp, hsz, rfl⟩⟩
  have HB : Hid (Below w.heap.size w (w.drew.alloc (.cells cells 28))) := ((Below.refl _ w).drew).alloc (Nat.le_refl _) _
  have hnz : ¬ (n : Int) < 0 := by omega
  have hnp : (0 : Int) < n := by omega
  clear hcells hcap hcp hsz
  go_enter Try.func55, Try.ntmps55
  go_wp2_with (at_builtin; refine Lib.wpList_append_run _ rfl _ _ _ _ rfl _ _ rfl rfl _ _ hr ?_)
  go_ret
  exact ⟨_, rfl, HO.out, HB.out⟩

end Lh
end Go.Proofs.Ytaefoieoachdfaa
