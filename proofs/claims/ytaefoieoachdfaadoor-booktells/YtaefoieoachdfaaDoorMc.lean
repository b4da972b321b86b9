/- What the reference's set answers: a book with a leaf more, or in the place of one. -/
import Derived.Test.YtaefoieoachdfaaDoorMb
import Derived.Test.YtaefoieoachdfaaDoorLk
namespace Go.Proofs.YtaefoieoachdfaaDoor
namespace Mc
set_option linter.unusedVariables false
open Go.ChangeShapes Go.WideShapes Go.ChangeAt Go.RowKit Bm Ka Kb La Lb Lc Ld Le Lf Lg Lh Li Lj Lk Lp Mb

/- a leaf that lies in a block of its own -/
theorem leaf_new (w : World) (x : Leaf) (t : TypeId) : ∀ j u, (flat [x])[j]? = some u → (w.alloc (.cells #[.string x.1, .int .i64 x.2.1, .bool x.2.2] t)).cell? ((⟨w.heap.size, 0, none⟩ : Addr).add j) = some u := by
  intro j u hu
  have h2 : (w.alloc (.cells #[.string x.1, .int .i64 x.2.1, .bool x.2.2] t)).heap[w.heap.size]? = some (.cells #[.string x.1, .int .i64 x.2.1, .bool x.2.2] t) := heap_alloc_new w _
  have e : flat [x] = [.string x.1, .int .i64 x.2.1, .bool x.2.2] := rfl
  rw [e] at hu
  rw [Addr.add_lit, Nat.zero_add]
  simp only [World.cell?, h2]
  simpa using hu
theorem own_app {w : World} {base : Nat} {t : TypeId} {v : Value} {n m : Nat} {a b : List Leaf} (hn : a.length = n) (hm : b.length = m) (h : w.ownsRow base t 3 v (n + m) (flat a ++ flat b)) : w.ownsRow base t 3 v (a ++ b).length (flat (a ++ b)) := by
  rw [List.length_append, flat_append, hn, hm]; exact h

set_option maxHeartbeats 2000000 in
theorem set_full (q : Option Addr) (n c : Nat) (i : Int) (sx : ByteArray) (nx : Int) (bx : Bool) (w : World) (h300 : 300 ≤ n) (hn : n ≤ 1048576) :
    Calls Tryd.prog 42 #[.slice q n c, .int .i64 i, .bool false, .agg #[.string sx, .int .i64 nx, .bool bx]] w fun e w' => e = .returned (.tuple #[.slice none 0 0, .int .i64 4]) ∧ Below w.heap.size w w' := by
  have hz : (300 : Int) ≤ n := by omega
  go_enter Tryd.func42, Tryd.ntmps42
  go_wp2_with fail
  go_ret2
  exact ⟨rfl, (Below.refl _ w).alloc (Nat.le_refl _) _⟩

set_option maxRecDepth 100000 in
set_option maxHeartbeats 4000000 in
theorem set_new (b o n c i : Nat) (l : List Leaf) (sx : ByteArray) (nx : Int) (bx : Bool) (w : World) (hl : l.length = n) (h : ∀ j, j < l.length → At w b o j (l.getD j none0)) (hi : i ≤ n) (hn : n < 300) (hc : n ≤ c) (hcm : c ≤ maxLen) :
    Calls Tryd.prog 42 #[.slice (some ⟨b, o, none⟩) n c, .int .i64 i, .bool false, .agg #[.string sx, .int .i64 nx, .bool bx]] w fun e w' => ∃ v, e = .returned (.tuple #[v, .int .i64 0]) ∧ BookNew w.heap.size w' v (l.take i ++ (sx, nx, bx) :: l.drop i) ∧ Below w.heap.size w w' := by
  obtain ⟨i0, hi0, hz0, hz1, hz2⟩ := info_parts infoLeaf
  have hz : ¬ (300 : Int) ≤ n := by omega
  have hiz : (i : Int) ≤ n := by omega
  have hicz : (i : Int) ≤ c := by omega
  
  have hcm2 := hcm
  unfold maxLen at hcm2
  obtain ⟨ad, had⟩ : ∃ ad, (if c = i then some (⟨b, o, none⟩ : Addr) else some ⟨b, o + i * 3, none⟩) = some ad := by
    by_cases e : c = i
    · exact ⟨⟨b, o, none⟩, by rw [if_pos e]⟩
    · exact ⟨⟨b, o + i * 3, none⟩, by rw [if_neg e]⟩
  have HB1 : Hid (Below w.heap.size w (w.alloc (.cells #[.string sx, .int .i64 nx, .bool bx] 39))) := (Below.refl _ w).alloc (Nat.le_refl _) _
  have HT : Hid (∀ W, Below w.heap.size w W → ∀ j u, (flat (l.take i))[j]? = some u → W.cell? ((⟨b, o, none⟩ : Addr).add j) = some u) := by
    intro W hb j u hu
    have h2 : ∀ j, j < l.length → At W b o j (l.getD j none0) := fun j hj => (h j hj).below hb (h j hj).lt
    rcases take_part (i := i) (c := c) (by omega) h2 with ⟨e, _⟩ | ⟨ad2, c2, e, hc2⟩
    · cases e
    · injection e with e1 e2 e3
      injection e1 with e1
      rw [e1]; exact hc2 j u hu
  have HD : Hid (∀ W, Below w.heap.size w W → ∀ j u, (flat (l.drop i))[j]? = some u → W.cell? (ad.add j) = some u) := by
    intro W hb j u hu
    have h2 : ∀ j, j < l.length → At W b o j (l.getD j none0) := fun j hj => (h j hj).below hb (h j hj).lt
    rcases drop_part hl (by omega) hc had h2 with ⟨e, _⟩ | ⟨ad2, c2, e, hc2⟩
    · cases e
    · injection e with e1 e2 e3
      injection e1 with e1
      rw [e1]; exact hc2 j u hu
  have HLT : Hid ((l.take i).length = i) := by unfold Hid; rw [List.length_take]; omega
  have HLD : Hid ((l.drop i).length = n - i) := by unfold Hid; rw [List.length_drop, hl]
  clear hl h
  go_enter Tryd.func42, Tryd.ntmps42
  go_wp2_with (first
    | (at_builtin; refine wpList_append_own_at _ rfl (.tmp 18) (.tmp 21) 22 rfl (w.alloc (.cells #[.string sx, .int .i64 nx, .bool bx] 39)).heap.size 39 i0 (.agg #[.string ⟨#[]⟩, .int .i64 0, .bool false]) 3 32 Tryd.underlying22 hi0 hz0 hz1 hz2 rfl (by decide) (.slice none 0 0) 0 [] rfl (World.ownsRow_nil _ _ _ _) ⟨b, o, none⟩ i c (flat (l.take i)) rfl (by rw [flat_length, HLT.out]) (HT.out _ HB1.out) (flat_one _) (by unfold maxLen; omega) (by omega) (Nat.le_refl _) ?_; intro v1 w1 hown1 hgrow1 _ hat1; have HW1 : Hid (w1.ownsRow (w.alloc (.cells #[.string sx, .int .i64 nx, .bool bx] 39)).heap.size 39 3 v1 (l.take i).length (flat (l.take i))) := (by have h9 := hown1; rw [Nat.zero_add, List.nil_append] at h9; rw [HLT.out]; exact h9); have HB2 : Hid (Below (w.alloc (.cells #[.string sx, .int .i64 nx, .bool bx] 39)).heap.size (w.alloc (.cells #[.string sx, .int .i64 nx, .bool bx] 39)) w1) := (Below.refl _ _).grown hgrow1 (Nat.le_refl _) (fun k hk => by cases hk); have d := new_cell (x := (sx, nx, bx)) HB2.out; simp only at d; obtain ⟨d0, d1, d2⟩ := d; clear hown1 hgrow1 hat1)
    | (at_builtin; refine wpList_append_own_at _ rfl (.tmp 23) (.tmp 25) 22 rfl (w.alloc (.cells #[.string sx, .int .i64 nx, .bool bx] 39)).heap.size 39 i0 (.agg #[.string ⟨#[]⟩, .int .i64 0, .bool false]) 3 32 Tryd.underlying22 hi0 hz0 hz1 hz2 rfl (by decide) v1 _ _ rfl (HW1.out.alloc _) ⟨w1.heap.size, 0, none⟩ 1 1 (flat [(sx, nx, bx)]) rfl rfl (leaf_new w1 (sx, nx, bx) _) (flat_one _) (by have := HLT.out; unfold maxLen; omega) (by have := HLT.out; omega) (by have := HB2.out.size; simp at this ⊢; omega) ?_; intro v2 w2 hown2 hgrow2 _ hat2; have HW2 : Hid (w2.ownsRow (w.alloc (.cells #[.string sx, .int .i64 nx, .bool bx] 39)).heap.size 39 3 v2 (l.take i ++ [(sx, nx, bx)]).length (flat (l.take i ++ [(sx, nx, bx)]))) := own_app rfl rfl hown2; have HB3 : Hid (Below (w.alloc (.cells #[.string sx, .int .i64 nx, .bool bx] 39)).heap.size (w.alloc (.cells #[.string sx, .int .i64 nx, .bool bx] 39)) w2) := own_grow HW1.out (HB2.out.alloc HB2.out.size _) hgrow2 (by have := HB2.out.size; simp at this ⊢; omega); clear hown2 hgrow2 hat2 d0 d1 d2)
    | (at_builtin; refine wpList_append_own_at _ rfl (.tmp 30) (.tmp 33) 22 rfl (w.alloc (.cells #[.string sx, .int .i64 nx, .bool bx] 39)).heap.size 39 i0 (.agg #[.string ⟨#[]⟩, .int .i64 0, .bool false]) 3 32 Tryd.underlying22 hi0 hz0 hz1 hz2 rfl (by decide) v2 _ _ rfl HW2.out ad (n - i) (c - i) (flat (l.drop i)) rfl (by rw [flat_length, HLD.out]) (HD.out _ (bel HB1.out HB3.out)) (flat_one _) (by have := HLT.out; unfold maxLen; simp; omega) (by have := HLT.out; simp; omega) HB3.out.size ?_; intro v3 w3 hown3 hgrow3 _ hat3; have HW3 : Hid (w3.ownsRow (w.alloc (.cells #[.string sx, .int .i64 nx, .bool bx] 39)).heap.size 39 3 v3 ((l.take i ++ [(sx, nx, bx)]) ++ l.drop i).length (flat ((l.take i ++ [(sx, nx, bx)]) ++ l.drop i))) := own_app rfl HLD.out hown3; have HB4 : Hid (Below w.heap.size w w3) := bel HB1.out (own_grow HW2.out HB3.out hgrow3 HB3.out.size); clear hown3 hgrow3 hat3))
  go_ret2
  refine ⟨_, rfl, ⟨?_, (Lies.own HW3.out).mono HB1.out.size⟩, HB4.out⟩
  have := own_at HW3.out
  rw [List.append_assoc] at this
  exact this

set_option maxRecDepth 100000 in
set_option maxHeartbeats 4000000 in
theorem set_has (b o n c i : Nat) (l : List Leaf) (sx : ByteArray) (nx : Int) (bx : Bool) (w : World) (hl : l.length = n) (h : ∀ j, j < l.length → At w b o j (l.getD j none0)) (hi : i < n) (hn : n ≤ 300) (hc : n ≤ c) (hcm : c ≤ maxLen) :
    Calls Tryd.prog 42 #[.slice (some ⟨b, o, none⟩) n c, .int .i64 i, .bool true, .agg #[.string sx, .int .i64 nx, .bool bx]] w fun e w' => ∃ v, e = .returned (.tuple #[v, .int .i64 0]) ∧ BookNew w.heap.size w' v (l.take i ++ (sx, nx, bx) :: l.drop (i + 1)) ∧ Below w.heap.size w w' := by
  obtain ⟨i0, hi0, hz0, hz1, hz2⟩ := info_parts infoLeaf
  have hz1n : (i : Int) + 1 ≤ n := by omega
  have hiz : (i : Int) ≤ n := by omega
  have hicz : (i : Int) ≤ c := by omega
  have hi1c : (i : Int) + 1 ≤ c := by omega
  have hcm2 := hcm
  unfold maxLen at hcm2
  obtain ⟨ad, had⟩ : ∃ ad, (if c = (i + 1) then some (⟨b, o, none⟩ : Addr) else some ⟨b, o + (i + 1) * 3, none⟩) = some ad := by
    by_cases e : c = (i + 1)
    · exact ⟨⟨b, o, none⟩, by rw [if_pos e]⟩
    · exact ⟨⟨b, o + (i + 1) * 3, none⟩, by rw [if_neg e]⟩
  have HB1 : Hid (Below w.heap.size w (w.alloc (.cells #[.string sx, .int .i64 nx, .bool bx] 39))) := (Below.refl _ w).alloc (Nat.le_refl _) _
  have HT : Hid (∀ W, Below w.heap.size w W → ∀ j u, (flat (l.take i))[j]? = some u → W.cell? ((⟨b, o, none⟩ : Addr).add j) = some u) := by
    intro W hb j u hu
    have h2 : ∀ j, j < l.length → At W b o j (l.getD j none0) := fun j hj => (h j hj).below hb (h j hj).lt
    rcases take_part (i := i) (c := c) (by omega) h2 with ⟨e, _⟩ | ⟨ad2, c2, e, hc2⟩
    · cases e
    · injection e with e1 e2 e3
      injection e1 with e1
      rw [e1]; exact hc2 j u hu
  have HD : Hid (∀ W, Below w.heap.size w W → ∀ j u, (flat (l.drop (i + 1)))[j]? = some u → W.cell? (ad.add j) = some u) := by
    intro W hb j u hu
    have h2 : ∀ j, j < l.length → At W b o j (l.getD j none0) := fun j hj => (h j hj).below hb (h j hj).lt
    rcases drop_part hl (by omega) hc had h2 with ⟨e, _⟩ | ⟨ad2, c2, e, hc2⟩
    · cases e
    · injection e with e1 e2 e3
      injection e1 with e1
      rw [e1]; exact hc2 j u hu
  have HLT : Hid ((l.take i).length = i) := by unfold Hid; rw [List.length_take]; omega
  have HLD : Hid ((l.drop (i + 1)).length = n - (i + 1)) := by unfold Hid; rw [List.length_drop, hl]
  clear hl h
  go_enter Tryd.func42, Tryd.ntmps42
  go_wp2_with (first
    | (at_builtin; refine wpList_append_own_at _ rfl (.tmp 18) (.tmp 21) 22 rfl (w.alloc (.cells #[.string sx, .int .i64 nx, .bool bx] 39)).heap.size 39 i0 (.agg #[.string ⟨#[]⟩, .int .i64 0, .bool false]) 3 32 Tryd.underlying22 hi0 hz0 hz1 hz2 rfl (by decide) (.slice none 0 0) 0 [] rfl (World.ownsRow_nil _ _ _ _) ⟨b, o, none⟩ i c (flat (l.take i)) rfl (by rw [flat_length, HLT.out]) (HT.out _ HB1.out) (flat_one _) (by unfold maxLen; omega) (by omega) (Nat.le_refl _) ?_; intro v1 w1 hown1 hgrow1 _ hat1; have HW1 : Hid (w1.ownsRow (w.alloc (.cells #[.string sx, .int .i64 nx, .bool bx] 39)).heap.size 39 3 v1 (l.take i).length (flat (l.take i))) := (by have h9 := hown1; rw [Nat.zero_add, List.nil_append] at h9; rw [HLT.out]; exact h9); have HB2 : Hid (Below (w.alloc (.cells #[.string sx, .int .i64 nx, .bool bx] 39)).heap.size (w.alloc (.cells #[.string sx, .int .i64 nx, .bool bx] 39)) w1) := (Below.refl _ _).grown hgrow1 (Nat.le_refl _) (fun k hk => by cases hk); have d := new_cell (x := (sx, nx, bx)) HB2.out; simp only at d; obtain ⟨d0, d1, d2⟩ := d; clear hown1 hgrow1 hat1)
    | (at_builtin; refine wpList_append_own_at _ rfl (.tmp 23) (.tmp 25) 22 rfl (w.alloc (.cells #[.string sx, .int .i64 nx, .bool bx] 39)).heap.size 39 i0 (.agg #[.string ⟨#[]⟩, .int .i64 0, .bool false]) 3 32 Tryd.underlying22 hi0 hz0 hz1 hz2 rfl (by decide) v1 _ _ rfl (HW1.out.alloc _) ⟨w1.heap.size, 0, none⟩ 1 1 (flat [(sx, nx, bx)]) rfl rfl (leaf_new w1 (sx, nx, bx) _) (flat_one _) (by have := HLT.out; unfold maxLen; omega) (by have := HLT.out; omega) (by have := HB2.out.size; simp at this ⊢; omega) ?_; intro v2 w2 hown2 hgrow2 _ hat2; have HW2 : Hid (w2.ownsRow (w.alloc (.cells #[.string sx, .int .i64 nx, .bool bx] 39)).heap.size 39 3 v2 (l.take i ++ [(sx, nx, bx)]).length (flat (l.take i ++ [(sx, nx, bx)]))) := own_app rfl rfl hown2; have HB3 : Hid (Below (w.alloc (.cells #[.string sx, .int .i64 nx, .bool bx] 39)).heap.size (w.alloc (.cells #[.string sx, .int .i64 nx, .bool bx] 39)) w2) := own_grow HW1.out (HB2.out.alloc HB2.out.size _) hgrow2 (by have := HB2.out.size; simp at this ⊢; omega); clear hown2 hgrow2 hat2 d0 d1 d2)
    | (at_builtin; refine wpList_append_own_at _ rfl (.tmp 30) (.tmp 33) 22 rfl (w.alloc (.cells #[.string sx, .int .i64 nx, .bool bx] 39)).heap.size 39 i0 (.agg #[.string ⟨#[]⟩, .int .i64 0, .bool false]) 3 32 Tryd.underlying22 hi0 hz0 hz1 hz2 rfl (by decide) v2 _ _ rfl HW2.out ad (n - (i + 1)) (c - (i + 1)) (flat (l.drop (i + 1))) rfl (by rw [flat_length, HLD.out]) (HD.out _ (bel HB1.out HB3.out)) (flat_one _) (by have := HLT.out; unfold maxLen; simp; omega) (by have := HLT.out; simp; omega) HB3.out.size ?_; intro v3 w3 hown3 hgrow3 _ hat3; have HW3 : Hid (w3.ownsRow (w.alloc (.cells #[.string sx, .int .i64 nx, .bool bx] 39)).heap.size 39 3 v3 ((l.take i ++ [(sx, nx, bx)]) ++ l.drop (i + 1)).length (flat ((l.take i ++ [(sx, nx, bx)]) ++ l.drop (i + 1)))) := own_app rfl HLD.out hown3; have HB4 : Hid (Below w.heap.size w w3) := bel HB1.out (own_grow HW2.out HB3.out hgrow3 HB3.out.size); clear hown3 hgrow3 hat3))
  go_ret2
  refine ⟨_, rfl, ⟨?_, (Lies.own HW3.out).mono HB1.out.size⟩, HB4.out⟩
  have := own_at HW3.out
  rw [List.append_assoc] at this
  exact this

end Mc
end Go.Proofs.YtaefoieoachdfaaDoor
