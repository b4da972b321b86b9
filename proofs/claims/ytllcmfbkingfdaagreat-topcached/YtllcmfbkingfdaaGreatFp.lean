/- Package cache: a cache in memory; forget, add, remove. -/
import Derived.Test.YtllcmfbkingfdaaGreatFl
import Derived.Test.YtllcmfbkingfdaaGreatFo
namespace Go.Proofs.YtllcmfbkingfdaaGreat
namespace Fp
set_option linter.unusedVariables false
set_option linter.unusedSimpArgs false
open Go.ChangeShapes Go.WideShapes Go.ChangeAt Go.RowKit Ka Kb Ef Fc Fl Fm Fo
open Fb (Kp names get? off used trim Inv)
open Ec (e0)

abbrev four (b u : Int) (B : Nat) (v : Value) : Array Value := #[.int .i64 b, .int .i64 u, .map (some B), v]
structure Raw (w : World) (X B : Nat) (b u : Int) (v : Value) (M : List Kp) (l : List ByteArray) : Prop where
  blk : w.heap[X]? = some (.cells (four b u B v) 73)
  map : MapS w B M
  row : RowT 0 w v l
def Fs (X B : Nat) (v : Value) (k : Nat) : Prop := k = X ∨ k = B ∨ v.ownBlock = some k
section
variable {w w' : World} {X B : Nat} {b u : Int} {v : Value} {M : List Kp} {l : List ByteArray}
theorem Raw.ne (h : Raw w X B b u v M l) : X ≠ B := fun e => by
  have := h.blk
  rw [e] at this
  exact h.map.noCells this
theorem no_cache {n : Nat} {xs : List Value} {cs : Array Value} (h : w.ownsRow 0 9 1 v n xs) (hX : w.heap[X]? = some (.cells cs 73)) : ∀ k, v.ownBlock = some k → k ≠ X := fun k hk e => by
  obtain ⟨_, cur, hc⟩ := own_lt h k hk
  rw [e, hX] at hc
  injection hc with hc
  injection hc with _ hc _
  exact absurd hc (by decide)
theorem no_map {n : Nat} {xs : List Value} (h : w.ownsRow 0 9 1 v n xs) (hm : MapS w B M) : ∀ k, v.ownBlock = some k → k ≠ B := fun k hk e => by
  obtain ⟨_, cur, hc⟩ := own_lt h k hk
  rw [e] at hc
  exact hm.noCells hc
theorem Raw.offX (h : Raw w X B b u v M l) : ∀ k, v.ownBlock = some k → k ≠ X := no_cache h.row h.blk
theorem Raw.offB (h : Raw w X B b u v M l) : ∀ k, v.ownBlock = some k → k ≠ B := no_map h.row h.map
theorem Raw.lt (h : Raw w X B b u v M l) : ∀ k, Fs X B v k → k < w.heap.size := by
  rintro k (e | e | e)
  · rw [e]; exact (Array.getElem?_eq_some_iff.1 h.blk).1
  · rw [e]; exact h.map.lt
  · exact (own_lt h.row k e).1
theorem Raw.stay (h : Raw w X B b u v M l) (hs : Stay (Fs X B v) w w') : Raw w' X B b u v M l :=
  ⟨by rw [hs X (Or.inl rfl)]; exact h.blk, h.map.stay (hs B (Or.inr (Or.inl rfl))), own_stay h.row fun k e => hs k (Or.inr (Or.inr e))⟩
theorem Raw.below (h : Raw w X B b u v M l) (hb : Below w.heap.size w w') : Raw w' X B b u v M l := h.stay fun k hk => hb.block k (h.lt k hk)
theorem Raw.heap (h : Raw w X B b u v M l) (hb : w'.heap = w.heap) : Raw w' X B b u v M l := h.stay fun k hk => by rw [hb]
end
/- how many letters: another number -/
theorem Raw.set_u {w : World} {X B : Nat} {b u : Int} {v : Value} {M : List Kp} {l : List ByteArray} (h : Raw w X B b u v M l) (u' : Int) : Raw (w.setCell ⟨X, 1, none⟩ (.int .i64 u')) X B b u' v M l :=
  ⟨by rw [set_heap h.blk]; rfl, h.map.stay (set_block _ _ _ _ (fun e => h.ne e.symm)), own_stay h.row fun k hk => set_block _ _ _ _ (h.offX k hk)⟩
theorem Raw.set_m {w w1 : World} {X B : Nat} {b u : Int} {v : Value} {M M' : List Kp} {l : List ByteArray} (h : Raw w X B b u v M l) (hm : MapS w1 B M') (hg : w.grownBy w1 (some B)) : Raw w1 X B b u v M' l := by
  have hc : Chg (fun k => k = B) w w1 := Chg.grown hg (fun g e => by injection e with e; exact e.symm)
  refine ⟨?_, hm, own_stay h.row fun k hk => hc.block k (h.lt k (Or.inr (Or.inr hk))) (h.offB k hk)⟩
  rw [hc.block X (h.lt X (Or.inl rfl)) h.ne]; exact h.blk
theorem Raw.set_v {w w1 : World} {X B : Nat} {b u : Int} {v v' : Value} {M : List Kp} {l l' : List ByteArray} (h : Raw w X B b u v M l) (hc : Chg (fun k => v.ownBlock = some k) w w1) (hr : RowT 0 w1 v' l') :
    Raw (w1.setCell ⟨X, 3, none⟩ v') X B b u v' M l' ∧ Chg (Fs X B v) w (w1.setCell ⟨X, 3, none⟩ v') := by
  have hX : X < w.heap.size := h.lt X (Or.inl rfl)
  have hb1 : w1.heap[X]? = some (.cells (four b u B v) 73) := by rw [hc.block X hX (fun e => h.offX X e rfl)]; exact h.blk
  refine ⟨⟨?_, h.map.stay ?_, own_stay hr fun k hk => set_block _ _ _ _ (no_cache hr hb1 k hk)⟩, Chg.setCell (F := Fs X B v) (hc.mono fun g e => Or.inr (Or.inr e)) (p := ⟨X, 3, none⟩) (Or.inl rfl) _⟩
  · rw [set_heap hb1]; rfl
  · rw [set_block _ _ _ _ (fun e => h.ne e.symm)]
    exact hc.block B (h.lt B (Or.inr (Or.inl rfl))) (fun e => h.offB B e rfl)

set_option maxRecDepth 100000 in
set_option maxHeartbeats 2000000 in
theorem forget_any (X B : Nat) (b u : Int) (v : Value) (M : List Kp) (l : List ByteArray) (p t : ByteArray) (w : World) (h : Raw w X B b u v M l) (hg : get? p M = some t) (h0 : 0 ≤ u) (h1 : u ≤ 30000) (ht : t.size ≤ 30000) :
    Calls Tryz.prog 46 #[ptr X, .string p] w fun e w' => e = .returned (.tuple #[]) ∧ Raw w' X B b (u - t.size) v (off p M) l ∧ Chg (fun k => k = X ∨ k = B) w w' := by
  have c1 := blk_cell h.blk (i := 1) (u := .int .i64 u) rfl
  have c2 := blk_cell h.blk (i := 2) (u := .map (some B)) rfl
  have f1 := blk_free h.blk (i := 1)
  have hw : IntKind.i64.wrap (u - (t.size : Int)) = u - (t.size : Int) := wrap_in (by omega) (by omega)
  have l1 := lookup_no h.map p
  have l2 := lookup_no (w := w.drew) (h.map.stay rfl) p
  rw [hg] at l1 l2
  simp only [Option.getD_some] at l1 l2
  have m1 : Raw (w.setCell ⟨X, 1, none⟩ (.int .i64 (u - (t.size : Int)))).drew X B b (u - (t.size : Int)) v M l := (h.set_u _).heap rfl
  have HC1 : Hid (Chg (fun k => k = X ∨ k = B) w (w.setCell ⟨X, 1, none⟩ (.int .i64 (u - (t.size : Int)))).drew) := ((Chg.refl (fun k => k = X ∨ k = B) w).setCell (p := ⟨X, 1, none⟩) (Or.inl rfl) _).trans (Chg.ofBelow (Below.refl _ _).drew _)
  obtain ⟨z, hz⟩ : ∃ z, z = u - (t.size : Int) := ⟨_, rfl⟩
  rw [← hz] at m1 HC1 ⊢
  have hw2 : IntKind.i64.wrap (u - (t.size : Int)) = z := hw.trans hz.symm
  obtain ⟨w2, hd, hm2, hg2⟩ := delete_run m1.map p t hg
  have d2 := blk_cell m1.blk (i := 2) (u := .map (some B)) rfl
  have HM2 : Hid (Raw w2 X B b z v (off p M) l) := m1.set_m hm2 hg2
  have HC2 : Hid (Chg (fun k => k = X ∨ k = B) w w2) := HC1.out.trans (Chg.grown hg2 (fun g e => by injection e with e; exact Or.inr e.symm))
  clear h hg h0 h1 ht m1 HC1 hm2 hg2 hw hz
  go_enter Tryz.func46, Tryz.ntmps46
  go_wp2_with fail
  go_region_law (fail)
  all_goals
    go_wp2_with fail
    go_end0
    exact ⟨rfl, HM2.out, HC2.out⟩

end Fp
end Go.Proofs.YtllcmfbkingfdaaGreat
