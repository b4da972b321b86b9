/- What readOp wants: which bytes are too short for an op, what stands in them, and the worlds between its calls. -/
import Derived.Test.YtcmoajlcmeimiaaDoorVh
namespace Go.Proofs.YtcmoajlcmeimiaaDoor
namespace Vi
set_option linter.unusedVariables false
open Go.ChangeShapes Go.WideShapes Go.ChangeAt Go.RowKit Cm Ka Kb Na Om Oa Oz Oc Og Oi Ov Va Vb Vc Vd Ve Vf Vg Vh
open La (bel bel_drew errV_zero errV_ne own_ge own_grow own_below)

theorem drop_bytes (o : Ox) : (bytesB o).drop (5 + o.2.2.1.size) = tailB o ++ [u8 (sumB (frontB o) % 253)] := by
  have eq : bytesB o = u8 o.2.1 :: u8 o.1.1 :: u8 (o.1.2 / 256) :: u8 (o.1.2 % 256) :: u8 o.2.2.1.size :: (o.2.2.1.toList ++ (tailB o ++ [u8 (sumB (frontB o) % 253)])) := by
    unfold bytesB
    show (u8 o.2.1 :: u8 o.1.1 :: u8 (o.1.2 / 256) :: u8 (o.1.2 % 256) :: u8 o.2.2.1.size :: (o.2.2.1.toList ++ tailB o)) ++ _ = _
    simp only [List.cons_append, List.append_assoc]
  rw [eq, Nat.add_comm 5]
  show (o.2.2.1.toList ++ (tailB o ++ _)).drop o.2.2.1.size = _
  rw [← Om.len_eq, List.drop_left]
theorem dec_some {S : List UInt8} {o : Ox} (h : decB S = some o) : readB S = o ∧ opE o = 0 ∧ bytesB o = S ∧ (S.getD 4 0).toNat = o.2.2.1.size := by
  obtain ⟨h1, h2⟩ := decB_iff.1 h
  obtain ⟨g1, g2, g3⟩ := read_bytes h1
  rw [h2] at g1 g3
  refine ⟨g1, h1, h2, ?_⟩
  have hp := Bm.chk_pos (opE_zero.1 h1).2.2.1
  rw [Om.len_eq] at hp
  have e := u8_val (n := (o.2.2.1.size : Int)) (by omega) (by omega)
  rw [g3]; omega
theorem dec_none_of {S : List UInt8} {o : Ox} (hr : readB S = o) (h : ¬ (opE o = 0 ∧ bytesB o = S)) : decB S = none := by
  cases hd : decB S with
  | none => rfl
  | some q =>
    obtain ⟨g1, g2, g3, _⟩ := dec_some hd
    rw [hr] at g1
    subst g1
    exact absurd ⟨g2, g3⟩ h
theorem dec_lt {S : List UInt8} (h : S.length < 5 ∨ S.length < 5 + (S.getD 4 0).toNat) : decB S = none := by unfold decB; rw [if_pos h]
theorem dec_short1 {S : List UInt8} (h1 : ((S.getD 0 0).toNat : Int) = 1) (h : S.length < 5 + (S.getD 4 0).toNat + 1) : decB S = none := by
  cases hd : decB S with
  | none => rfl
  | some q =>
    obtain ⟨g1, g2, g3, g4⟩ := dec_some hd
    have e : q.2.1 = 1 := by rw [← g1]; exact h1
    have hl := bytesB_len q
    rw [g3, e] at hl
    simp at hl
    omega
theorem dec_short4 {S : List UInt8} (h1 : ((S.getD 0 0).toNat : Int) = 4) (h : S.length < 5 + (S.getD 4 0).toNat + 1) : decB S = none := by
  cases hd : decB S with
  | none => rfl
  | some q =>
    obtain ⟨g1, g2, g3, g4⟩ := dec_some hd
    have e : q.2.1 = 4 := by rw [← g1]; exact h1
    have hl := bytesB_len q
    rw [g3, e] at hl
    simp at hl
    omega
theorem dec_short4n {S : List UInt8} {E : Nat} (hE : E = 5 + (S.getD 4 0).toNat) (h1 : ((S.getD 0 0).toNat : Int) = 4) (h : S.length < E + 1 + 3 * (S.getD E 0).toNat) : decB S = none := by
  cases hd : decB S with
  | none => rfl
  | some q =>
    obtain ⟨g1, g2, g3, g4⟩ := dec_some hd
    have e : q.2.1 = 4 := by rw [← g1]; exact h1
    have hl := bytesB_len q
    have h40 := (lawOf_zero.1 (opE_zero.1 g2).2.2.2).2.2.2.1
    have hdr := drop_bytes q
    rw [g3] at hl hdr
    rw [e] at hl
    simp at hl
    have hEq : E = 5 + q.2.2.1.size := by omega
    rw [← hEq] at hdr
    have ht : tailB q = u8 q.2.2.2.2.length :: seenB q.2.2.2.2 := by unfold tailB; rw [e]; rfl
    rw [ht] at hdr
    have hg : S.getD E 0 = u8 q.2.2.2.2.length := by
      have : (S.drop E).getD 0 0 = u8 q.2.2.2.2.length := by rw [hdr]; rfl
      rw [← this, List.getD_eq_getElem?_getD, List.getD_eq_getElem?_getD, List.getElem?_drop, Nat.add_zero]
    have hv := u8_val (n := (q.2.2.2.2.length : Int)) (by omega) (by omega)
    rw [hg] at h
    omega
theorem head_drop (S : List UInt8) (E : Nat) : (S.drop E).headD 0 = S.getD E 0 := by
  rw [← head_at, List.getD_eq_getElem?_getD, List.getD_eq_getElem?_getD, List.getElem?_drop, Nat.add_zero]
theorem tail_drop (S : List UInt8) (E : Nat) : (S.drop E).tail = S.drop (E + 1) := by rw [List.tail_drop]
/- what stands in the bytes -/
theorem readB_at (s : ByteArray) (E : Nat) (hE : E = 5 + (s.toList.getD 4 0).toNat) (h : E ≤ s.size) :
    readB s.toList = ((((s.toList.getD 1 0).toNat : Int), ((numAt s.toList 2 : Nat) : Int)), ((s.toList.getD 0 0).toNat : Int), s.extract 5 E,
      letterIn ((s.toList.getD 0 0).toNat : Int) (s.toList.drop E), seenIn ((s.toList.getD 0 0).toNat : Int) (s.toList.drop E)) := by
  have ep : (⟨((s.toList.drop 5).take (s.toList.getD 4 0).toNat).toArray⟩ : ByteArray) = s.extract 5 E := by
    apply mk_eq
    rw [list_extract, toList_mk, List.drop_take, show E - 5 = (s.toList.getD 4 0).toNat by omega]
  have eb : ((s.toList.getD 2 0).toNat : Int) * 256 + ((s.toList.getD 3 0).toNat : Int) = ((numAt s.toList 2 : Nat) : Int) := by
    show _ = (((s.toList.getD 2 0).toNat * 256 + (s.toList.getD 3 0).toNat : Nat) : Int); omega
  unfold readB
  rw [ep, eb, ← hE]
theorem letter1 (S : List UInt8) (E : Nat) : letterIn 1 (S.drop E) = ((S.getD E 0).toNat : Int) := by unfold letterIn; rw [if_pos rfl, head_drop]
theorem seen4 (S : List UInt8) (E : Nat) : seenIn 4 (S.drop E) = threes (S.getD E 0).toNat (S.drop (E + 1)) := by unfold seenIn; rw [if_pos rfl, head_drop, tail_drop]
theorem threes_zero (r : List UInt8) : threes 0 r = [] := by cases r <;> rfl
theorem threes_snoc (S : List UInt8) : ∀ (i j : Nat), j + 3 * i + 3 ≤ S.length → threes (i + 1) (S.drop j) = threes i (S.drop j) ++ [(((S.getD (j + 3 * i) 0).toNat : Int), ((numAt S (j + 3 * i + 1) : Nat) : Int))]
  | i, j, h => by
    have d1 : S.drop j = S.getD j 0 :: S.getD (j + 1) 0 :: S.getD (j + 2) 0 :: S.drop (j + 3) := by
      rw [List.drop_eq_getElem_cons (by omega), List.drop_eq_getElem_cons (i := j + 1) (by omega), List.drop_eq_getElem_cons (i := j + 1 + 1) (by omega)]
      rw [List.getD_eq_getElem?_getD, List.getD_eq_getElem?_getD, List.getD_eq_getElem?_getD, List.getElem?_eq_getElem (by omega), List.getElem?_eq_getElem (by omega), List.getElem?_eq_getElem (by omega)]
      rfl
    match i, h with
    | 0, h =>
      rw [threes_zero, d1]
      show [_] ++ threes 0 _ = _
      rw [threes_zero]
      show [((((S.getD j 0).toNat : Nat) : Int), ((S.getD (j + 1) 0).toNat : Int) * 256 + ((S.getD (j + 2) 0).toNat : Int))] = [((((S.getD j 0).toNat : Nat) : Int), (((S.getD (j + 1) 0).toNat * 256 + (S.getD (j + 1 + 1) 0).toNat : Nat) : Int))]
      congr 2
    | i + 1, h =>
      have ih := threes_snoc S i (j + 3) (by omega)
      rw [d1]
      show _ :: threes (i + 1) (S.drop (j + 3)) = (_ :: threes i (S.drop (j + 3))) ++ _
      rw [ih, List.cons_append, show j + 3 + 3 * i = j + 3 * (i + 1) by omega]

/- the worlds between the calls: the answer's block, the reader's, the op's -/
def Z6 : Array Value := #[.int .i64 0, .int .i64 0, .int .i64 0, .string ⟨#[]⟩, .int .i64 0, .slice none 0 0]
structure St (w W : World) (s : ByteArray) (k h4 : Nat) (cs : Array Value) : Prop where
  rd : Rd W (w.heap.size + 1) (s.extract k s.size)
  ob : W.heap[h4]? = some (.cells cs 53 (0, 0))
  rb : W.heap[w.heap.size]? = some (.cells Z6 53 (0, 0))
  bl : Below w.heap.size w W
  at4 : h4 = w.heap.size + 2
  sz : w.heap.size + 3 ≤ W.heap.size
theorem keep_heap {W W' : World} {k : Nat} {o : Obj} (hb : Below W.heap.size W W') (h : W.heap[k]? = some o) : W'.heap[k]? = some o := by
  rw [hb.block k (by
    rcases Nat.lt_or_ge k W.heap.size with e | e
    · exact e
    · rw [Array.getElem?_eq_none e] at h; cases h)]
  exact h
theorem St.grown {w W W' : World} {s : ByteArray} {k k' h4 : Nat} {cs : Array Value} (h : St w W s k h4 cs) (g : W.grownBy W' (some (w.heap.size + 1))) (hr : Rd W' (w.heap.size + 1) (s.extract k' s.size)) : St w W' s k' h4 cs :=
  ⟨hr, grown_block g h.ob (by have := h.at4; omega), grown_block g h.rb (by omega), h.bl.trans (grown_below g (by omega) (by have := h.sz; omega)), h.at4, Nat.le_trans h.sz g.size⟩
theorem St.only {w W W' : World} {s : ByteArray} {k k' h4 : Nat} {cs : Array Value} (h : St w W s k h4 cs) (g : Only (w.heap.size + 1) W W') (hr : Rd W' (w.heap.size + 1) (s.extract k' s.size)) : St w W' s k' h4 cs := h.grown (only_grown g) hr
theorem St.below {w W W' : World} {s : ByteArray} {k h4 : Nat} {cs : Array Value} (h : St w W s k h4 cs) (hb : Below W.heap.size W W') : St w W' s k h4 cs :=
  ⟨keep_heap hb h.rd, keep_heap hb h.ob, keep_heap hb h.rb, bel h.bl hb, h.at4, Nat.le_trans h.sz hb.size⟩
theorem St.set {w W : World} {s : ByteArray} {k h4 : Nat} {cs : Array Value} (h : St w W s k h4 cs) (i : Nat) (v : Value) : St w (W.setCell ⟨h4, i, none⟩ v) s k h4 (cs.setIfInBounds i v) := by
  have h4 := h.at4
  refine ⟨?_, setCell_heap h.ob, ?_, h.bl.setCell (p := ⟨_, i, none⟩) (by simp; omega) v, h4, by simp only [World.setCell, Array.size_modify]; exact h.sz⟩
  · unfold Rd; rw [set_block _ _ _ _ (by simp; omega)]; exact h.rd
  · rw [set_block _ _ _ _ (by simp; omega)]; exact h.rb
/- the first worlds -/
theorem first_worlds (w : World) (s : ByteArray) : Rd ((w.alloc (.cells Z6 53)).alloc (.cells #[.string s] 112)) (w.heap.size + 1) (s.extract 0 s.size) ∧ ((w.alloc (.cells Z6 53)).alloc (.cells #[.string s] 112)).heap[w.heap.size]? = some (.cells Z6 53 (0, 0)) ∧
    Below w.heap.size w ((w.alloc (.cells Z6 53)).alloc (.cells #[.string s] 112)) ∧ ((w.alloc (.cells Z6 53)).alloc (.cells #[.string s] 112)).heap.size = w.heap.size + 2 := by
  refine ⟨?_, ?_, ((Below.refl _ w).alloc (Nat.le_refl _) _).alloc (by simp) _, by simp⟩
  · rw [ext_all]
    have := heap_alloc_new (w.alloc (.cells Z6 53)) (.cells #[.string s] 112)
    rwa [show (w.alloc (.cells Z6 53)).heap.size = w.heap.size + 1 by simp] at this
  · have := heap_alloc_old (w.alloc (.cells Z6 53)) (.cells #[.string s] 112) (show w.heap.size < _ by simp)
    exact this.trans (heap_alloc_new w _)
theorem St.first {w W0 W : World} {s : ByteArray} (h2 : W0.heap[w.heap.size]? = some (.cells Z6 53 (0, 0))) (h3 : Below w.heap.size w W0) (h4 : W0.heap.size = w.heap.size + 2) (ho : Only (w.heap.size + 1) W0 W) {k : Nat} (hr : Rd W (w.heap.size + 1) (s.extract k s.size)) (cs : Array Value) :
    St w (W.alloc (.cells cs 53)) s k W.heap.size cs := by
  have hs : W.heap.size = w.heap.size + 2 := ho.size.trans h4
  refine ⟨?_, heap_alloc_new W _, ?_, (h3.trans (ho.below (by omega))).alloc (by omega) _, hs, by simp; omega⟩
  · exact (heap_alloc_old W _ (by omega)).trans hr
  · exact (heap_alloc_old W _ (by omega)).trans ((ho.block _ (by omega)).trans h2)

/- what readOp answers: an op, or the panic of bytes that are none -/
def Post (s : ByteArray) (w : World) (e : Ending) (w' : World) : Prop :=
  (decB s.toList = none ∧ e = .panicked SynP ∧ Below w.heap.size w w') ∨ ∃ o u, decB s.toList = some o ∧ e = .returned u ∧ Kept w.heap.size w' u o ∧ Below w.heap.size w w'
theorem Post.no {s : ByteArray} {w w' : World} (h : decB s.toList = none) (hb : Below w.heap.size w w') : Post s w (.panicked SynP) w' := Or.inl ⟨h, rfl, hb⟩
theorem Post.yes {s : ByteArray} {w w' : World} {o : Ox} {u : Value} (h : decB s.toList = some o) (hk : Kept w.heap.size w' u o) (hb : Below w.heap.size w w') : Post s w (.returned u) w' := Or.inr ⟨o, u, h, rfl, hk, hb⟩

/- a dot more behind a row, at a step of a region that draws -/
theorem step_putD {ops : Array Oper} {o : Oper} {a : Act} {W : World} {K : Act → World → Prop} {Q : Exit → Act → World → Prop} {E : Prop} (hgd : o.guard = none) (sO xO : Operand)
    (ho : o.op = .call { callee := .builtin .append, args := #[sO, xO], argTypes := #[27, 27] })
    (B : Nat) (v : Value) (l : List Dt) (x : Dt) (hs : a.eval sO = v) (h0 : Nat) (hx : a.eval xO = .slice (some ⟨h0, 0, none⟩) 1 1)
    (hlen : l.length + 1 ≤ 1000000) (hown : W.ownsRow B 24 2 v l.length (flatD l)) (hB : B ≤ W.heap.size) (hc0 : W.cell? ⟨h0, 0, none⟩ = some (.int .i64 x.1)) (hc1 : W.cell? ⟨h0, 1, none⟩ = some (.int .i64 x.2))
    (h : ∀ v' w', w'.ownsRow B 24 2 v' (l ++ [x]).length (flatD (l ++ [x])) → Grew W w' v v' → K (a.put o.dst v') w') :
    if Region.wanted o (yielded ops a.tmps) = true then Oper.wp Tryd.prog o a W K Q else E := by
  have hw : Region.wanted o (yielded ops a.tmps) = true := by simp [Region.wanted, hgd]
  rw [if_pos hw]
  obtain ⟨i0, hi, hz0, hz1, hz2⟩ := info_parts infoD
  obtain ⟨v', w', hr, h2, h3, _, h5⟩ := run_append_own_at (P := Tryd.prog) W B 27 o.type 24 i0 (.agg #[.int .i64 0, .int .i64 0]) 2 16 Tryd.underlying27 hi hz0 hz1 hz2 rfl (by decide) v l.length (flatD l) hown ⟨h0, 0, none⟩ 1 1 (flatD [x]) rfl (by
    intro j u hu
    have e : flatD [x] = [.int .i64 x.1, .int .i64 x.2] := rfl
    rw [e] at hu
    rw [addr_zero]
    rcases j with _ | _ | j
    · rw [hc0]; exact hu
    · rw [hc1]; exact hu
    · simp at hu) (by
    intro u hu
    have e : flatD [x] = [.int .i64 x.1, .int .i64 x.2] := rfl
    rw [e] at hu
    rcases List.mem_cons.1 hu with rfl | hu
    · rfl
    · rcases List.mem_cons.1 hu with rfl | hu
      · rfl
      · cases hu) (by unfold maxLen; omega) (by omega) hB
  unfold Oper.wp execOp
  simp only [ho, resolve, invoke, builtin, Sem.run_bind, Sem.run_pure, Result.andThen_ok, List.map_toArray, List.map_cons, List.map_nil, hs, hx, hr]
  refine h v' w' (own_appD rfl rfl h2) ⟨h3, ?_⟩
  rcases h5 with e | e
  · exact Or.inl e
  · refine Or.inr fun k hk => ?_
    rw [e] at hk; injection hk with hk; omega

end Vi
end Go.Proofs.YtcmoajlcmeimiaaDoor
