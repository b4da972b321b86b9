/- Package net: slices.Delete of parcels; add. -/
import Derived.Test.YthalakfphecflaaGreatDoorHs
import Derived.Test.YthalakfphecflaaGreatDoorJ6
import Derived.Laws.IdiomCopy
import Derived.Deep.MidRow
import Derived.Lib.SliceRun
import Derived.Deep.Upon
namespace Go.Proofs.YthalakfphecflaaGreatDoor
namespace Hp
set_option linter.unusedVariables false
set_option linter.unusedSimpArgs false
open Go.ChangeShapes Go.WideShapes Go.ChangeAt Go.RowKit Cm Ka Kb Na Om Oa Oz Oc Og Oi Hm Ia Ic Ie Aa Hc Hd Hi Hl Hs
open La (bel bel_drew errV_zero errV_ne own_ge own_grow own_below Lies)

theorem infoP : (Tryz.prog.info? 108).map (fun i => (i.zero, i.size, i.bytes)) = some (some (.agg #[.int .i64 0, .string ⟨#[]⟩]), 2, 24) := by kernel_rfl
theorem zeroP : ∀ w, (zeroValue 108).run Tryz.prog w = .ok (.agg #[.int .i64 0, .string ⟨#[]⟩]) w := fun _ => by kernel_rfl
abbrev zP : Value := .agg #[.int .i64 0, .string ⟨#[]⟩]
theorem zP_size : zP.cells.size = 2 := by kernel_rfl
theorem zP_one : ∀ u ∈ zP.cells.toList, u.oneCell' = true := by
  intro u hu
  have e : zP.cells.toList = [.int .i64 0, .string ⟨#[]⟩] := by kernel_rfl
  rw [e] at hu
  simp only [List.mem_cons, List.not_mem_nil, or_false] at hu
  rcases hu with rfl | rfl <;> rfl
theorem heap_setCells : ∀ (vs : List Value) (g o : Nat) (w : World) (cur : Array Value) (t : TypeId) (f : Nat × Nat), w.heap[g]? = some (.cells cur t f) → ∃ cur' : Array Value, (w.setCells g o vs).heap[g]? = some (.cells cur' t f) ∧ cur'.size = cur.size
  | [], g, o, w, cur, t, f, h => ⟨cur, h, rfl⟩
  | v :: r, g, o, w, cur, t, f, h => by
    obtain ⟨c2, h1, h2⟩ := heap_setCells r g (o + 1) (w.setCell ⟨g, o, none⟩ v) _ t f (set_heap h)
    exact ⟨c2, h1, by rw [h2]; simp⟩
theorem tape_setCells : ∀ (vs : List Value) (b o : Nat) (w : World), (w.setCells b o vs).tape = w.tape ∧ (w.setCells b o vs).heap.size = w.heap.size
  | [], _, _, _ => ⟨rfl, rfl⟩
  | v :: r, b, o, w => by
    obtain ⟨h1, h2⟩ := tape_setCells r b (o + 1) (w.setCell ⟨b, o, none⟩ v)
    exact ⟨h1.trans rfl, h2.trans (set_size _ _ _)⟩
theorem chg_setCells {F : Nat → Prop} {w0 w : World} {g : Nat} (h : Chg F w0 w) (hg : F g) (o : Nat) (vs : List Value) : Chg F w0 (w.setCells g o vs) := by
  obtain ⟨ht, hz⟩ := tape_setCells vs g o w
  exact ⟨(World.os_setCells _ _ _ _).trans h.os, ht.trans h.tape, (World.output_setCells _ _ _ _).trans h.output, by rw [hz]; exact h.size, fun k hk hf => by rw [World.heap_setCells_other w g o vs (Nat.lt_of_lt_of_le hk h.size) (fun e => hf (e ▸ hg))]; exact h.block k hk hf⟩
set_option maxHeartbeats 4000000 in
set_option maxRecDepth 1000000 in
theorem del_run (blk off cap i j n : Nat) (l : List Pc) (w : World) (hn : l.length = n) (hH : ∀ t, t < n * 2 → w.cell? ⟨blk, off + t, none⟩ = (flatP l)[t]?) (hF : ∀ t, w.frozen? ⟨blk, t, none⟩ = false) (hcap : n ≤ cap) (hm : cap ≤ 9223372036854775807) (hij : i < j) (hj : j ≤ n) :
    Calls Tryz.prog 47 #[.slice (some ⟨blk, off, none⟩) n cap, .int .i64 i, .int .i64 j] w fun e w' => e = .returned (.slice (some ⟨blk, off, none⟩) (i + (n - j)) cap) ∧ w' = (w.drew.setCells blk (off + i * 2) (flatP (l.drop j))).setCells blk (off + (i + (n - j)) * 2) (Builtin.zeroCells zP.cells (n - (i + (n - j)))).toList := by
  obtain ⟨i0, hi0, hz0, hz1, hz2⟩ := info_parts infoP
  have t22 := Tryz.underlying63
  obtain ⟨news, hnews⟩ : ∃ news, news = flatP (l.drop j) := ⟨_, rfl⟩
  rw [← hnews]
  have hlen : news.length = (n - j) * 2 := by rw [hnews, flatP_length, List.length_drop, hn]
  have hfl : (flatP l).length = n * 2 := by rw [flatP_length, hn]
  have hsplit : flatP l = flatP (l.take j) ++ news := by rw [hnews, ← flatP_append, List.take_append_drop]
  have htk : (flatP (l.take j)).length = j * 2 := by rw [flatP_length, List.length_take]; omega
  have hget : ∀ t, t < (n - j) * 2 → news[t]? = (flatP l)[j * 2 + t]? := by
    intro t ht
    rw [hsplit, List.getElem?_append_right (by omega), htk, Nat.add_sub_cancel_left]
  have hsome : ∀ t, t < n * 2 → (w.cell? ⟨blk, off + t, none⟩).isSome = true := by
    intro t ht
    rw [hH t ht, List.getElem?_eq_getElem (by omega)]; rfl
  obtain ⟨A, hA, hsrc⟩ : ∃ A : Addr, (if cap = j then some (⟨blk, off, none⟩ : Addr) else some ⟨blk, off + j * 2, none⟩) = some A ∧ Hid (∀ t u, news[t]? = some u → w.drew.cell? (A.add t) = some u) := by
    by_cases h : cap = j
    · refine ⟨⟨blk, off, none⟩, by simp [h], fun t u hu => ?_⟩
      have h0 : news.length = 0 := by rw [hlen]; omega
      rw [List.length_eq_zero_iff.1 h0] at hu
      simp at hu
    · refine ⟨⟨blk, off + j * 2, none⟩, by simp [h], fun t u hu => ?_⟩
      have ht : t < (n - j) * 2 := by
        have := (List.getElem?_eq_some_iff.1 hu).1
        rwa [hlen] at this
      rw [hget t ht] at hu
      rw [Addr.add_lit, show off + j * 2 + t = off + (j * 2 + t) by omega]
      exact (hH (j * 2 + t) (by omega)).trans hu
  have s1 : Hid (news.length = (n - j) * 2) := hlen
  have s2 : Hid (∀ u ∈ news, u.oneCell' = true) := by rw [hnews]; exact flatP_one _
  have s3 : Hid (∀ t, t < news.length → (w.drew.cell? ⟨blk, off + i * 2 + t, none⟩).isSome = true ∧ w.drew.frozen? ⟨blk, off + i * 2 + t, none⟩ = false) := by
    intro t ht
    rw [hlen] at ht
    rw [Nat.add_assoc]
    exact ⟨hsome (i * 2 + t) (by omega), hF _⟩
  obtain ⟨W1, hW1⟩ : ∃ W1, W1 = w.drew.setCells blk (off + i * 2) news := ⟨_, rfl⟩
  rw [← hW1]
  have hH1 : ∀ t, t < n * 2 → (W1.cell? ⟨blk, off + t, none⟩).isSome = true := by
    intro t ht
    rw [hW1]
    exact World.isSome_setCells blk news _ w.drew _ (hsome t ht)
  have hF1 : ∀ t, W1.frozen? ⟨blk, t, none⟩ = false := by
    intro t
    rw [hW1, World.frozen?_setCells]; exact hF t
  have hcl : ∀ ty, (Builtin.clear_ #[63] ty #[.slice (some ⟨blk, off + (i + (n - j)) * 2, none⟩) (n - (i + (n - j))) (cap - (i + (n - j)))]).run Tryz.prog W1 = .ok (.tuple #[]) (W1.setCells blk (off + (i + (n - j)) * 2) (Builtin.zeroCells zP.cells (n - (i + (n - j)))).toList) :=
    fun ty => Nl.run_clear W1 _ _ ty _ t22 zeroP (by rw [zP_size]; omega) zP_one blk (off + (i + (n - j)) * 2) _ _ (by omega) (fun t ht => by rw [zP_size] at ht; rw [show off + (i + (n - j)) * 2 + t = off + ((i + (n - j)) * 2 + t) by omega]; exact hH1 _ (by omega)) hF1
  have hW : Hid (W1 = w.drew.setCells blk (off + i * 2) news) := hW1
  have hic : i ≤ cap := by omega
  have hjc : j ≤ cap := by omega
  have hij2 : ¬ i = j := by omega
  generalize (Builtin.zeroCells zP.cells (n - (i + (n - j)))).toList = zs at hcl ⊢
  clear hW1 hH1 hF1 hF hH hget hnews hlen hn hfl hsplit htk hsome
  go_enter Tryz.func47, Tryz.ntmps47
  go_wp2_with fail
  go_region_law (refine step_append_room rfl (.tmp 22) (.tmp 25) 63 rfl 108 i0 2 t22 hi0 hz1 blk off i cap (by simp [Act.eval, Act.put]) A (n - j) (cap - j) news (by simp [Act.eval, Act.put]) s1.out hsrc.out s2.out (by omega) s3.out ?_; rw [← hW.out])
  go_wp2
  go_ret
  exact ⟨rfl, rfl⟩

theorem erase_eq (l : List Pc) (i : Nat) : l.eraseIdx i = l.take i ++ l.drop (i + 1) := List.eraseIdx_eq_take_drop_succ l i
theorem del_one (g cap n i : Nat) (l : List Pc) (w : World) (h : RowP w (.slice (some ⟨g, 0, none⟩) n cap) l) (hl : l.length = n) (hi : i < n) :
    Calls Tryz.prog 47 #[.slice (some ⟨g, 0, none⟩) n cap, .int .i64 i, .int .i64 ((i + 1 : Nat) : Int)] w fun e w' => e = .returned (.slice (some ⟨g, 0, none⟩) (n - 1) cap) ∧ RowP w' (.slice (some ⟨g, 0, none⟩) (n - 1) cap) (l.eraseIdx i) ∧ Chg (fun x => (Value.slice (some ⟨g, 0, none⟩) n cap).ownBlock = some x) w w' := by
  rcases h.2 with ⟨e, _⟩ | ⟨g', cap', cur, e, hg, hc, h1, h2, h3, h4⟩
  · cases e
  · injection e with e1 e2 e3
    injection e1 with e1
    injection e1 with e1 _
    subst e1 e3
    have hfl : (flatP l).length = n * 2 := by rw [flatP_length, hl]
    have hcell : ∀ t, t < n * 2 → w.cell? ⟨g, 0 + t, none⟩ = (flatP l)[t]? := by
      intro t ht
      have h9 := World.ownsRow.cells h (g := g) rfl t _ (List.getElem?_eq_getElem (by omega))
      rw [Addr.add_lit] at h9
      rw [h9, List.getElem?_eq_getElem (by omega)]
    refine (del_run g 0 cap i (i + 1) n l w hl hcell (fun t => by simp [World.frozen?, hc]) (by omega) (by unfold maxLen at h2; omega) (Nat.lt_succ_self _) hi).mono ?_
    rintro e w' ⟨rfl, rfl⟩
    have e9 : i + (n - (i + 1)) = n - 1 := by omega
    rw [e9]
    have hel : (l.eraseIdx i).length = n - 1 := by rw [List.length_eraseIdx_of_lt (by omega), hl]
    have hdl : (flatP (l.drop (i + 1))).length = (n - (i + 1)) * 2 := by rw [flatP_length, List.length_drop, hl]
    have htl : (flatP (l.take i)).length = i * 2 := by rw [flatP_length, List.length_take]; omega
    refine ⟨rfl, ?_, ?_⟩
    · obtain ⟨c1, a1, a2⟩ := heap_setCells (flatP (l.drop (i + 1))) g (0 + i * 2) w.drew cur _ _ hc
      obtain ⟨c2, b1, b2⟩ := heap_setCells (Builtin.zeroCells zP.cells (n - (n - 1))).toList g (0 + (n - 1) * 2) _ c1 _ _ a1
      refine ⟨by rw [flatP_length], Or.inr ⟨g, cap, c2, by rw [hel], Nat.zero_le _, b1, by rw [hel]; omega, h2, by rw [b2, a2]; exact h3, ?_⟩⟩
      rw [hel]
      apply List.ext_getElem?
      intro t
      by_cases ht : t < (n - 1) * 2
      · rw [List.getElem?_take_of_lt ht, Array.getElem?_toList]
        have q1 : ((w.drew.setCells g (0 + i * 2) (flatP (l.drop (i + 1)))).setCells g (0 + (n - 1) * 2) (Builtin.zeroCells zP.cells (n - (n - 1))).toList).cell? ⟨g, 0 + t, none⟩ = (flatP (l.eraseIdx i))[t]? := by
          rw [World.cell?_setCells_out g _ _ _ _ (fun _ _ => Or.inl (by show 0 + t < 0 + (n - 1) * 2; omega)), erase_eq, flatP_append]
          by_cases hti : t < i * 2
          · rw [World.cell?_setCells_out g _ _ _ _ (fun _ _ => Or.inl (by show 0 + t < 0 + i * 2; omega)), List.getElem?_append_left (by omega)]
            show w.cell? _ = _
            rw [hcell t (by omega)]
            have hs : flatP l = flatP (l.take i) ++ flatP (l.drop i) := by rw [← flatP_append, List.take_append_drop]
            rw [hs, List.getElem?_append_left (by omega)]
          · obtain ⟨s, rfl⟩ : ∃ s, t = i * 2 + s := ⟨t - i * 2, by omega⟩
            have hlt : s < (flatP (l.drop (i + 1))).length := by rw [hdl]; omega
            rw [List.getElem?_append_right (by omega), htl, Nat.add_sub_cancel_left, show 0 + (i * 2 + s) = 0 + i * 2 + s by omega, World.cell?_setCells_in g _ _ _ (fun j hj => ?_) s hlt, List.getElem?_eq_getElem hlt]
            rw [hdl] at hj
            show (w.cell? _).isSome = true
            rw [show 0 + i * 2 + j = 0 + (i * 2 + j) by omega, hcell _ (by omega), List.getElem?_eq_getElem (by omega)]; rfl
        rw [← q1]
        simp only [World.cell?, b1]
        simp
      · rw [List.getElem?_eq_none (by rw [List.length_take]; omega), List.getElem?_eq_none (by rw [flatP_length, hel]; omega)]
    · exact chg_setCells (F := fun x => some g = some x) (chg_setCells (F := fun x => some g = some x) (Chg.ofBelow (Below.refl _ w).drew _) rfl _ _) rfl _ _

/- a parcel is put behind all: append in a region that draws -/
theorem step_putP {ops : Array Oper} {o : Oper} {a : Act} {W : World} {K : Act → World → Prop} {Q : Exit → Act → World → Prop} {E : Prop} (hgd : o.guard = none) (sO xO : Operand)
    (ho : o.op = .call { callee := .builtin .append, args := #[sO, xO], argTypes := #[63, 63] })
    (v : Value) (n : Nat) (l : List Pc) (x : Pc) (hs : a.eval sO = v) (h0 : Nat) (hx : a.eval xO = .slice (some ⟨h0, 0, none⟩) 1 1) (hn : l.length = n)
    (hlen : n + 1 ≤ 1048576) (hown : RowP W v l) (hc0 : W.heap[h0]? = some (.cells #[.int .i64 x.1, .string x.2] 108))
    (h : ∀ v' w', RowP w' v' (l ++ [x]) → W.grownBy w' v.ownBlock → (v'.ownBlock = v.ownBlock ∨ v'.ownBlock = some W.heap.size) → K (a.put o.dst v') w') :
    if Region.wanted o (yielded ops a.tmps) = true then Oper.wp Tryz.prog o a W K Q else E := by
  have hw : Region.wanted o (yielded ops a.tmps) = true := by simp [Region.wanted, hgd]
  rw [if_pos hw]
  obtain ⟨i0, hi, hz0, hz1, hz2⟩ := info_parts infoP
  have e6 : flatP [x] = [.int .i64 x.1, .string x.2] := rfl
  obtain ⟨v', w', hr, h2, h3, _, h5⟩ := run_append_own_at (P := Tryz.prog) W 0 63 o.type 108 i0 (.agg #[.int .i64 0, .string ⟨#[]⟩]) 2 24 Tryz.underlying63 hi hz0 hz1 hz2 rfl (by decide) v l.length (flatP l) hown ⟨h0, 0, none⟩ 1 1 (flatP [x]) rfl (by
    intro j u hu
    rw [Addr.add_lit, Nat.zero_add]
    rw [e6] at hu
    exact blk_cell hc0 (by simpa using hu)) (by
    intro u hu
    rw [e6] at hu
    simp only [List.mem_cons, List.not_mem_nil, or_false] at hu
    rcases hu with rfl | rfl <;> rfl) (by unfold maxLen; omega) (by omega) (Nat.zero_le _)
  unfold Oper.wp execOp
  simp only [ho, resolve, invoke, builtin, Sem.run_bind, Sem.run_pure, Result.andThen_ok, List.map_toArray, List.map_cons, List.map_nil, hs, hx, hr]
  refine h v' w' ?_ h3 h5
  unfold RowP
  rw [List.length_append, flatP_append]
  exact h2

end Hp
end Go.Proofs.YthalakfphecflaaGreatDoor
