/- slices.Clone, slices.Delete of texts (at a seat without package link; drawn from Em and En). -/
import Derived.Test.YtllcmfbkingfdaaGreatFc
import Derived.Deep.RegionLaw
import Derived.Deep.RegionHeld3
import Derived.Laws.IdiomCopy
import Derived.Deep.MidRow
import Derived.Lib.SliceRun
import Derived.Deep.Upon
namespace Go.Proofs.YtllcmfbkingfdaaGreat
namespace Fm
set_option linter.unusedVariables false
set_option linter.unusedSimpArgs false
open Go.ChangeShapes Go.WideShapes Go.ChangeAt Go.RowKit Ka Kb Ec Ef

theorem Hid.mk' {p : Prop} (h : p) : Hid p := h
theorem wrap_in {x : Int} (h1 : -1000000 ≤ x) (h2 : x ≤ 1000000) : IntKind.i64.wrap x = x := by rw [IntKind.wrap_i64]; omega
/- slices.Clone of texts -/
theorem at_new {v v' : Value} {w W : World} (hat : v'.ownBlock = v.ownBlock ∨ v'.ownBlock = some W.heap.size) (hz : w.heap.size ≤ W.heap.size) : ∀ k, v'.ownBlock = some k → v.ownBlock = some k ∨ w.heap.size ≤ k := by
  intro k hk
  rcases hat with e | e
  · left; rw [← e]; exact hk
  · right; rw [hk] at e; injection e with e; rw [e]; exact hz
theorem text_new (w : World) (d : ByteArray) : ∀ j y, [Value.string d][j]? = some y → (w.alloc (.cells #[.string d] 9)).cell? ((⟨w.heap.size, 0, none⟩ : Addr).add j) = some y := by
  intro j y hu
  have h2 := heap_alloc_new w (.cells #[.string d] 9)
  rw [Addr.add_lit, Nat.zero_add]
  simp only [World.cell?, h2]
  simpa using hu
theorem zeroS : ∀ w, (zeroValue 9).run Tryz.prog w = .ok (.string ByteArray.empty) w := fun _ => by kernel_rfl
set_option maxHeartbeats 4000000 in
set_option maxRecDepth 1000000 in
theorem del_run (blk off cap i j n : Nat) (l : List ByteArray) (w : World) (hn : l.length = n) (hH : ∀ t, t < n → w.cell? ⟨blk, off + t, none⟩ = some (.string (l.getD t e0)) ∧ w.frozen? ⟨blk, off + t, none⟩ = false) (hcap : n ≤ cap) (hm : cap ≤ 9223372036854775807) (hij : i < j) (hj : j ≤ n) :
    Calls Tryz.prog 52 #[.slice (some ⟨blk, off, none⟩) n cap, .int .i64 i, .int .i64 j] w fun e w' => e = .returned (.slice (some ⟨blk, off, none⟩) (i + (n - j)) cap) ∧ w' = (w.drew.setCells blk (off + i * 1) ((l.drop j).map Value.string)).setCells blk (off + (i + (n - j))) (List.replicate (n - (i + (n - j))) (.string ByteArray.empty)) := by
  obtain ⟨i0, hi0, hz0, hz1, hz2⟩ := info_parts infoS
  have t22 := Tryz.underlying71
  obtain ⟨news, hnews⟩ : ∃ news, news = (l.drop j).map Value.string := ⟨_, rfl⟩
  rw [← hnews]
  have hlen : news.length = n - j := by rw [hnews]; simp; omega
  have hget : ∀ t, t < n - j → news[t]? = some (.string (l.getD (j + t) e0)) := by
    intro t ht
    rw [hnews, List.getElem?_map, List.getElem?_drop, List.getD_eq_getElem?_getD, List.getElem?_eq_getElem (by omega)]
    rfl
  obtain ⟨A, hA, hsrc⟩ : ∃ A : Addr, (if cap = j then some (⟨blk, off, none⟩ : Addr) else some ⟨blk, off + j, none⟩) = some A ∧ Hid (∀ t u, news[t]? = some u → w.drew.cell? (A.add t) = some u) := by
    by_cases h : cap = j
    · refine ⟨⟨blk, off, none⟩, by simp [h], fun t u hu => ?_⟩
      have h0 : news.length = 0 := by rw [hlen]; omega
      rw [List.length_eq_zero_iff.1 h0] at hu
      simp at hu
    · refine ⟨⟨blk, off + j, none⟩, by simp [h], fun t u hu => ?_⟩
      have ht : t < n - j := by
        have := (List.getElem?_eq_some_iff.1 hu).1
        rwa [hlen] at this
      rw [hget t ht] at hu
      rw [Addr.add_lit, show off + j + t = off + (j + t) by omega]
      exact (hH (j + t) (by omega)).1.trans hu
  have s1 : Hid (news.length = (n - j) * 1) := by rw [Nat.mul_one]; exact hlen
  have s2 : Hid (∀ u ∈ news, u.oneCell' = true) := by
    intro u hu
    rw [hnews] at hu
    obtain ⟨x, _, rfl⟩ := List.mem_map.1 hu
    rfl
  have s3 : Hid (∀ t, t < news.length → (w.drew.cell? ⟨blk, off + i * 1 + t, none⟩).isSome = true ∧ w.drew.frozen? ⟨blk, off + i * 1 + t, none⟩ = false) := by
    intro t ht
    rw [hlen] at ht
    rw [Nat.mul_one, Nat.add_assoc]
    exact ⟨by show (w.cell? _).isSome = true; rw [(hH (i + t) (by omega)).1]; rfl, (hH (i + t) (by omega)).2⟩
  obtain ⟨W1, hW1⟩ : ∃ W1, W1 = w.drew.setCells blk (off + i * 1) news := ⟨_, rfl⟩
  rw [← hW1]
  have hH1 : ∀ t, t < n → (W1.cell? ⟨blk, off + t, none⟩).isSome = true ∧ W1.frozen? ⟨blk, off + t, none⟩ = false := by
    intro t ht
    rw [hW1]
    refine ⟨World.isSome_setCells blk news _ w.drew _ ?_, ?_⟩
    · show (w.cell? _).isSome = true
      rw [(hH t ht).1]; rfl
    · rw [World.frozen?_setCells]; exact (hH t ht).2
  have hcl : ∀ ty, (Builtin.clear_ #[71] ty #[.slice (some ⟨blk, off + (i + (n - j)), none⟩) (n - (i + (n - j))) (cap - (i + (n - j)))]).run Tryz.prog W1 = .ok (.tuple #[]) (W1.setCells blk (off + (i + (n - j))) (List.replicate (n - (i + (n - j))) (.string ByteArray.empty))) :=
    fun ty => Lib.run_clear_slice W1 _ _ ty _ t22 zeroS rfl rfl blk (off + (i + (n - j))) _ _ (by omega) (fun t ht => by rw [show off + (i + (n - j)) + t = off + (i + (n - j) + t) by omega]; exact (hH1 _ (by omega)).1) (fun t ht => by rw [show off + (i + (n - j)) + t = off + (i + (n - j) + t) by omega]; exact (hH1 _ (by omega)).2)
  have hW : Hid (W1 = w.drew.setCells blk (off + i * 1) news) := hW1
  have hic : i ≤ cap := by omega
  have hjc : j ≤ cap := by omega
  have hij2 : ¬ i = j := by omega
  clear hW1 hH1 hH hget hnews hlen hn
  go_enter Tryz.func52, Tryz.ntmps52
  go_wp2_with fail
  go_region_law (refine step_append_room rfl (.tmp 22) (.tmp 25) 71 rfl 9 i0 1 t22 hi0 hz1 blk off i cap (by simp [Act.eval, Act.put]) A (n - j) (cap - j) news (by simp [Act.eval, Act.put]) s1.out hsrc.out s2.out (by omega) s3.out ?_; rw [← hW.out])
  go_wp2
  go_ret
  exact ⟨rfl, rfl⟩
theorem heap_setCells : ∀ (vs : List Value) (g o : Nat) (w : World) (cur : Array Value) (t : TypeId) (f : Nat × Nat), w.heap[g]? = some (.cells cur t f) → ∃ cur' : Array Value, (w.setCells g o vs).heap[g]? = some (.cells cur' t f) ∧ cur'.size = cur.size
  | [], g, o, w, cur, t, f, h => ⟨cur, h, rfl⟩
  | v :: r, g, o, w, cur, t, f, h => by
    obtain ⟨c2, h1, h2⟩ := heap_setCells r g (o + 1) (w.setCell ⟨g, o, none⟩ v) _ t f (set_heap h)
    exact ⟨c2, h1, by rw [h2]; simp⟩
theorem tape_setCells : ∀ (vs : List Value) (b o : Nat) (w : World), (w.setCells b o vs).tape = w.tape ∧ (w.setCells b o vs).heap.size = w.heap.size
  | [], _, _, _ => ⟨rfl, rfl⟩
  | v :: r, b, o, w => by
    obtain ⟨h1, h2⟩ := tape_setCells r b (o + 1) (w.setCell ⟨b, o, none⟩ v)
    exact ⟨h1.trans rfl, h2.trans (set_size _ _ _)⟩
theorem chg_setCells {F : Nat → Prop} {w0 w : World} {g : Nat} (h : Chg F w0 w) (hg : F g) (o : Nat) (vs : List Value) : Chg F w0 (w.setCells g o vs) := by
  obtain ⟨ht, hz⟩ := tape_setCells vs g o w
  exact ⟨(World.os_setCells _ _ _ _).trans h.os, ht.trans h.tape, (World.output_setCells _ _ _ _).trans h.output, by rw [hz]; exact h.size, fun k hk hf => by rw [World.heap_setCells_other w g o vs (Nat.lt_of_lt_of_le hk h.size) (fun e => hf (e ▸ hg))]; exact h.block k hk hf⟩
theorem del_first (g cap n k : Nat) (l : List ByteArray) (w : World) (h : RowT 0 w (.slice (some ⟨g, 0, none⟩) n cap) l) (hl : l.length = n) (h0 : 0 < k) (hk : k ≤ n) :
    Calls Tryz.prog 52 #[.slice (some ⟨g, 0, none⟩) n cap, .int .i64 0, .int .i64 k] w fun e w' => e = .returned (.slice (some ⟨g, 0, none⟩) (n - k) cap) ∧ RowT 0 w' (.slice (some ⟨g, 0, none⟩) (n - k) cap) (l.drop k) ∧ Chg (fun x => some g = some x) w w' := by
  rcases h.2 with ⟨e, _⟩ | ⟨g', cap', cur, e, hg, hc, h1, h2, h3, h4⟩
  · cases e
  · injection e with e1 e2 e3
    injection e1 with e1
    injection e1 with e1 _
    subst e1 e3
    have hcell : ∀ t, t < n → w.cell? ⟨g, 0 + t, none⟩ = some (.string (l.getD t e0)) ∧ w.frozen? ⟨g, 0 + t, none⟩ = false := by
      intro t ht
      refine ⟨?_, by simp [World.frozen?, hc]⟩
      have h9 := h.cells (g := g) rfl t (.string (l.getD t e0)) (by rw [List.getElem?_map, List.getElem?_eq_getElem (by omega), List.getD_eq_getElem?_getD, List.getElem?_eq_getElem (by omega)]; rfl)
      rw [Addr.add_lit] at h9
      exact h9
    refine (del_run g 0 cap 0 k n l w hl hcell (by omega) (by unfold maxLen at h2; omega) h0 hk).mono ?_
    rintro e w' ⟨rfl, rfl⟩
    have e9 : 0 + (n - k) = n - k := by omega
    rw [e9]
    refine ⟨rfl, ?_, ?_⟩
    · obtain ⟨c1, a1, a2⟩ := heap_setCells ((l.drop k).map Value.string) g (0 + 0 * 1) w.drew cur _ _ hc
      obtain ⟨c2, b1, b2⟩ := heap_setCells (List.replicate (n - (n - k)) (.string ByteArray.empty)) g (0 + (n - k)) _ c1 _ _ a1
      have hdl : (l.drop k).length = n - k := by rw [List.length_drop, hl]
      refine ⟨by rw [List.length_map, Nat.mul_one], Or.inr ⟨g, cap, c2, by rw [hdl], Nat.zero_le _, b1, by rw [hdl]; omega, h2, by rw [b2, a2]; exact h3, ?_⟩⟩
      rw [Nat.mul_one, hdl]
      apply List.ext_getElem?
      intro t
      by_cases ht : t < n - k
      · rw [List.getElem?_take_of_lt ht, Array.getElem?_toList]
        have q1 : ((w.drew.setCells g (0 + 0 * 1) ((l.drop k).map Value.string)).setCells g (0 + (n - k)) (List.replicate (n - (n - k)) (.string ByteArray.empty))).cell? ⟨g, 0 + 0 * 1 + t, none⟩ = ((l.drop k).map Value.string)[t]? := by
          rw [World.cell?_setCells_out g _ _ _ _ (fun _ _ => Or.inl (by show 0 + 0 * 1 + t < 0 + (n - k); omega))]
          have hlt : t < ((l.drop k).map Value.string).length := by rw [List.length_map, hdl]; exact ht
          rw [World.cell?_setCells_in g _ _ _ (fun j hj => ?_) t hlt, List.getElem?_eq_getElem hlt]
          rw [List.length_map, hdl] at hj
          show (w.cell? _).isSome = true
          rw [show 0 + 0 * 1 + j = 0 + j by omega, (hcell j (by omega)).1]; rfl
        rw [← q1]
        simp only [World.cell?, b1]
        simp
      · rw [List.getElem?_eq_none (by rw [List.length_take]; omega), List.getElem?_eq_none (by rw [List.length_map, hdl]; omega)]
    · exact chg_setCells (F := fun x => some g = some x) (chg_setCells (F := fun x => some g = some x) (Chg.ofBelow (Below.refl _ w).drew _) rfl _ _) rfl _ _

end Fm
end Go.Proofs.YtllcmfbkingfdaaGreat
