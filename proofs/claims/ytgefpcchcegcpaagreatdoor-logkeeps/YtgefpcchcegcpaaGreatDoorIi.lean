/- What Apply stands on: what is known, the ops with one more, the doc behind it. -/
import Derived.Test.YtgefpcchcegcpaaGreatDoorIh
namespace Go.Proofs.YtgefpcchcegcpaaGreatDoor
namespace Ii
set_option linter.unusedVariables false
open Go.ChangeShapes Go.WideShapes Go.ChangeAt Go.RowKit Cm Ka Kb Na Om Oa Oz Oc Og Oi Hm Ia Ib Ic Idc Ie If Ig Ih
open La (bel bel_drew errV_zero errV_ne own_ge own_grow own_below Lies)

theorem vec_ok {S : Dq} (I : Inv S) : Dm.vecE S.known = 0 := by
  refine Dm.vecE_zero.2 ⟨I.klen, fun x hx => ?_⟩
  obtain ⟨i, hi, e⟩ := List.mem_iff_getElem.1 hx
  have h8 : i < 8 := by rw [← I.klen]; exact hi
  have h1 := I.kno ((i : Int) + 1) (by omega) (by omega)
  unfold kn at h1
  rw [show ((i : Int) + 1 - 1).toNat = i by omega, List.getD_eq_getElem?_getD, List.getElem?_eq_getElem hi] at h1
  simp only [Option.getD_some] at h1
  rw [e] at h1
  have h2 := List.length_filter_le (fun o : Ox => decide (o.1.1 = (i : Int) + 1)) S.ops
  have h3 := I.few
  omega
theorem has_eq {S : Dq} (I : Inv S) {a b : Int} (hd : dotE a b = 0) : Dm.hasB S.known a b = decide (b ≤ kn S a) := by
  have hw : Dm.withE S.known a b = 0 := by unfold Dm.withE; rw [if_pos (vec_ok I)]; exact hd
  unfold Dm.hasB
  rw [hw, decide_eq_true rfl, Bool.true_and]; rfl
theorem add_eq {S : Dq} (I : Inv S) {a b : Int} (hd : dotE a b = 0) (hk : ¬ b ≤ kn S a) : Dm.addE S.known a b = if kn S a + 1 < b then 6 else 0 := by
  have hw : Dm.withE S.known a b = 0 := by unfold Dm.withE; rw [if_pos (vec_ok I)]; exact hd
  unfold Dm.addE
  rw [hw, if_neg (by decide), if_neg (show ¬ b ≤ Dm.known S.known a from hk)]; rfl

/- known's row is another one -/
theorem set_known {w : World} {m : Mem} {S : Dq} {G : Nat → Prop} {vk : Value} {l : List Int} (h : DocMem w m S G) (h1 : KnAt w vk l) (i1 : In G vk) :
    DocMem (w.setCell ⟨m.D, 2, none⟩ vk) { m with vk := vk } { S with known := l } G ∧ Chg (fun g => g = m.D) w (w.setCell ⟨m.D, 2, none⟩ vk) := by
  have oth : ∀ g, g ≠ m.D → (w.setCell ⟨m.D, 2, none⟩ vk).heap[g]? = w.heap[g]? := fun g hg => set_block _ _ _ _ hg
  have hs : Stay G w (w.setCell ⟨m.D, 2, none⟩ vk) := fun g hg => oth g (fun e => h.off g hg (Or.inl e))
  have hne : ∀ g cur t, w.heap[g]? = some (.cells cur t (0, 0)) → t ≠ 74 → g ≠ m.D := fun g cur t hg ht e => by
    rw [e, h.blk] at hg
    injection hg with hg
    injection hg with _ hg _
    exact ht hg.symm
  obtain ⟨L, o1, o2, o3⟩ := h.ops
  refine ⟨⟨?_, book_stay h.book h.bookG hs, h.bookG, marks_stay h.marks h.marksG hs, h.marksG, known_stay h1 i1 hs, i1, ⟨L, o1, own_stay o2 (fun g hg => ?_), fun y hy => ⟨dots_stay (o3 y hy).1 (o3 y hy).2 hs, (o3 y hy).2⟩⟩, MapAt.stay h.map (oth _ ?_), fun x hx => own_stay (h.rows x hx) (fun g hg => ?_), h.apart, fun g hg => by rw [set_size]; exact h.lt g hg, h.off⟩, ?_⟩
  · rw [set_heap h.blk]; rfl
  · obtain ⟨_, cur, hc⟩ := own_lt o2 g hg
    exact oth g (hne g cur _ hc (by decide))
  · intro e
    obtain ⟨es, clock, hb9, _⟩ := h.map
    rw [e, h.blk] at hb9; cases hb9
  · obtain ⟨_, cur, hc⟩ := own_lt (h.rows x hx) g hg
    exact oth g (hne g cur _ hc (by decide))
  · exact (Chg.refl (fun g => g = m.D) w).setCell (p := ⟨m.D, 2, none⟩) rfl _

theorem infoO : (Tryz.prog.info? 34).map (fun i => (i.zero, i.size, i.bytes)) = some (some (.agg #[.int .i64 0, .int .i64 0, .int .i64 0, .string ⟨#[]⟩, .int .i64 0, .slice none 0 0]), 6, 72) := by kernel_rfl
/- append of one op to a row of the doc's own, at a step of a region that draws -/
theorem step_putO {ops : Array Oper} {o : Oper} {a : Act} {W : World} {K : Act → World → Prop} {Q : Exit → Act → World → Prop} {E : Prop} (hgd : o.guard = none) (sO xO : Operand)
    (ho : o.op = .call { callee := .builtin .append, args := #[sO, xO], argTypes := #[40, 40] })
    (v : Value) (n : Nat) (L : List (Ox × Value)) (x : Ox) (px : Option Addr) (nx cx : Nat) (hs : a.eval sO = v) (h0 : Nat) (hx : a.eval xO = .slice (some ⟨h0, 0, none⟩) 1 1)
    (hlen : n + 1 ≤ 1048576) (hown : W.ownsRow 0 34 6 v n (flatO L)) (hc0 : W.heap[h0]? = some (.cells #[.int .i64 x.1.1, .int .i64 x.1.2, .int .i64 x.2.1, .string x.2.2.1, .int .i64 x.2.2.2.1, .slice px nx cx] 34))
    (h : ∀ v' w', w'.ownsRow 0 34 6 v' (n + 1) (flatO (L ++ [(x, .slice px nx cx)])) → W.grownBy w' v.ownBlock → (v'.ownBlock = v.ownBlock ∨ v'.ownBlock = some W.heap.size) → K (a.put o.dst v') w') :
    if Region.wanted o (yielded ops a.tmps) = true then Oper.wp Tryz.prog o a W K Q else E := by
  have hw : Region.wanted o (yielded ops a.tmps) = true := by simp [Region.wanted, hgd]
  rw [if_pos hw]
  obtain ⟨i0, hi, hz0, hz1, hz2⟩ := info_parts infoO
  have e6 : flatO [(x, Value.slice px nx cx)] = [.int .i64 x.1.1, .int .i64 x.1.2, .int .i64 x.2.1, .string x.2.2.1, .int .i64 x.2.2.2.1, .slice px nx cx] := rfl
  obtain ⟨v', w', hr, h2, h3, _, h5⟩ := run_append_own_at (P := Tryz.prog) W 0 40 o.type 34 i0 (.agg #[.int .i64 0, .int .i64 0, .int .i64 0, .string ⟨#[]⟩, .int .i64 0, .slice none 0 0]) 6 72 Tryz.underlying40 hi hz0 hz1 hz2 rfl (by decide) v n (flatO L) hown ⟨h0, 0, none⟩ 1 1 (flatO [(x, .slice px nx cx)]) rfl (by
    intro j u hu
    rw [Addr.add_lit, Nat.zero_add]
    rw [e6] at hu
    exact blk_cell hc0 (by simpa using hu)) (by
    intro u hu
    rw [e6] at hu
    simp only [List.mem_cons, List.not_mem_nil, or_false] at hu
    rcases hu with rfl | rfl | rfl | rfl | rfl | rfl <;> rfl) (by unfold maxLen; omega) (by omega) (Nat.zero_le _)
  unfold Oper.wp execOp
  simp only [ho, resolve, invoke, builtin, Sem.run_bind, Sem.run_pure, Result.andThen_ok, List.map_toArray, List.map_cons, List.map_nil, hs, hx, hr]
  refine h v' w' ?_ h3 h5
  rw [flatO_append]
  exact h2
/- the ops with one more -/
theorem put_ops {w w1 w2 : World} {m : Mem} {S : Dq} {G : Nat → Prop} {v9 vs' : Value} {o : Ox} {L : List (Ox × Value)} (h : DocMem w m S G) (hL : L.map (·.1) = S.ops) (hLd : ∀ y ∈ L, DtsAt w y.2 y.1.2.2.2.2 ∧ In G y.2) (hb : Below w.heap.size w w1) (hn : w1.ownsRow w.heap.size 31 2 vs' o.2.2.2.2.length (flatD o.2.2.2.2))
    (hg : w1.grownBy w2 m.vo.ownBlock) (hr : w2.ownsRow 0 34 6 v9 (S.ops.length + 1) (flatO (L ++ [(o, vs')]))) (hl : v9.ownBlock = m.vo.ownBlock ∨ v9.ownBlock = some w1.heap.size) :
    DocMem (w2.setCell ⟨m.D, 3, none⟩ v9) { m with vo := v9 } { S with ops := S.ops ++ [o] } (fun g => G g ∨ vs'.ownBlock = some g) ∧ Chg (Wr m) w (w2.setCell ⟨m.D, 3, none⟩ v9) ∧ ∀ g, Wr { m with vo := v9 } g → Wr m g ∨ w.heap.size ≤ g := by
  have h1 := h.below hb
  obtain ⟨L0, p1, p2, p3⟩ := h1.ops
  have hvo : ∀ g, m.vo.ownBlock = some g → ∃ cur, w1.heap[g]? = some (.cells cur 34 (0, 0)) := fun g hgg => (own_lt p2 g hgg).2
  have hD1 : w1.heap[m.D]? = some (.cells #[m.vb, m.vm, m.vk, m.vo, .map (some m.B)] 74) := h1.blk
  have hDne : ∀ g, m.vo.ownBlock = some g → g ≠ m.D := fun g hgg e => by
    obtain ⟨cur, hc⟩ := hvo g hgg
    rw [e, hD1] at hc
    injection hc with hc
    injection hc with _ hc _
    exact absurd hc (by decide)
  -- all other blocks of w1 are as they were
  have oth : ∀ g, g < w1.heap.size → g ≠ m.D → m.vo.ownBlock ≠ some g → (w2.setCell ⟨m.D, 3, none⟩ v9).heap[g]? = w1.heap[g]? := fun g hgl hne hnv => by
    rw [set_block _ _ _ _ hne]; exact hg.block g hgl (fun e => hnv e.symm)
  have hD2 : w2.heap[m.D]? = some (.cells #[m.vb, m.vm, m.vk, m.vo, .map (some m.B)] 74) := by
    rw [hg.block _ (Array.getElem?_eq_some_iff.1 hD1).1 (fun e => hDne m.D e.symm rfl)]; exact hD1
  have hwl : ∀ g, Wr m g → g < w.heap.size := h.wr_lt
  have hs : Stay G w1 (w2.setCell ⟨m.D, 3, none⟩ v9) := fun g hgg => oth g (h1.lt g hgg) (fun e => h.off g hgg (Or.inl e)) (fun e => h.off g hgg (Or.inr (Or.inr (Or.inl e))))
  have hvs : ∀ g, vs'.ownBlock = some g → w.heap.size ≤ g ∧ g < w1.heap.size ∧ ∃ cur, w1.heap[g]? = some (.cells cur 31 (0, 0)) := fun g hgg => ⟨own_ge hn g hgg, own_lt hn g hgg⟩
  have hw : ∀ g, Wr { m with vo := v9 } g → Wr m g ∨ (w.heap.size ≤ g ∧ g = w1.heap.size) := by
    rintro g (e | e | e | e)
    · exact Or.inl (Or.inl e)
    · exact Or.inl (Or.inr (Or.inl e))
    · have e9 : v9.ownBlock = some g := e
      rcases hl with e2 | e2
      · exact Or.inl (Or.inr (Or.inr (Or.inl (by rw [← e2]; exact e9))))
      · rw [e9] at e2; injection e2 with e2; exact Or.inr ⟨by rw [e2]; exact hb.size, e2⟩
    · exact Or.inl (Or.inr (Or.inr (Or.inr e)))
  have hcell : ∀ g cur t, w1.heap[g]? = some (.cells cur t (0, 0)) → t ≠ 34 → t ≠ 74 → g ≠ m.D ∧ m.vo.ownBlock ≠ some g := fun g cur t h9 ht ht2 => by
    refine ⟨fun e => ?_, fun e => ?_⟩
    · rw [e, hD1] at h9
      injection h9 with h9
      injection h9 with _ h9 _
      exact ht2 h9.symm
    · obtain ⟨cur2, h8⟩ := hvo g e
      rw [h8] at h9
      injection h9 with h9
      injection h9 with _ h9 _
      exact ht h9.symm
  have hvst : DtsAt (w2.setCell ⟨m.D, 3, none⟩ v9) vs' o.2.2.2.2 := own_dts (own_stay hn fun g hgg => by
    obtain ⟨_, q2, cur, q3⟩ := hvs g hgg
    obtain ⟨q4, q5⟩ := hcell g cur _ q3 (by decide) (by decide)
    exact oth g q2 q4 q5)
  refine ⟨⟨?_, book_stay h1.book h1.bookG hs, h1.bookG.mono fun g e => Or.inl e, marks_stay h1.marks h1.marksG hs, h1.marksG.mono fun g e => Or.inl e, known_stay h1.known h1.knownG hs, h1.knownG.mono fun g e => Or.inl e, ?_, ?_, fun x hx => own_stay (h1.rows x hx) (fun g hgg => ?_), h1.apart, ?_, ?_⟩, ?_, fun g hgg => ?_⟩
  · rw [set_heap hD2]; rfl
  · refine ⟨L ++ [(o, vs')], by rw [List.map_append, hL]; rfl, ?_, fun y hy => ?_⟩
    · rw [List.length_append]
      refine own_stay hr fun g hgg => set_block _ _ _ _ (fun e => ?_)
      have e2 : g = m.D := e
      obtain ⟨_, cur, hc⟩ := own_lt hr g hgg
      rw [e2, hD2] at hc
      injection hc with hc
      injection hc with _ hc _
      exact absurd hc (by decide)
    · rcases List.mem_append.1 hy with hy | hy
      · exact ⟨dots_stay ((hLd y hy).1.below hb) (hLd y hy).2 hs, (hLd y hy).2.mono fun g e => Or.inl e⟩
      · rw [List.mem_singleton.1 hy]
        exact ⟨hvst, fun a n c e _ => Or.inr (by have e2 : vs' = Value.slice (some a) n c := e; rw [e2]; rfl)⟩
  · obtain ⟨es, clock, hb9, _⟩ := h1.map
    refine MapAt.stay h1.map (oth _ (MapAt.lt h1.map) (fun e => ?_) (fun e => ?_))
    · rw [e, hD1] at hb9; cases hb9
    · obtain ⟨cur, hc⟩ := hvo _ e
      rw [hc] at hb9; cases hb9
  · obtain ⟨q2, cur, q3⟩ := own_lt (h1.rows x hx) g hgg
    obtain ⟨q4, q5⟩ := hcell g cur _ q3 (by decide) (by decide)
    exact oth g q2 q4 q5
  · rintro g (e | e)
    · rw [set_size]; exact Nat.lt_of_lt_of_le (h1.lt g e) hg.size
    · rw [set_size]; exact Nat.lt_of_lt_of_le (hvs g e).2.1 hg.size
  · rintro g (e | e) e2
    · rcases hw g e2 with e3 | e3
      · exact h.off g e e3
      · have := h.lt g e; omega
    · obtain ⟨q1, q2, cur, q3⟩ := hvs g e
      rcases hw g e2 with e3 | e3
      · have := hwl g e3; omega
      · omega
  · refine (Chg.ofBelow hb (Wr m)).trans ?_
    have c1 : Chg (Wr m) w1 w2 := Chg.grown hg fun g e => Or.inr (Or.inr (Or.inl e))
    exact c1.setCell (p := ⟨m.D, 3, none⟩) (Or.inl rfl) _
  · rcases hw g hgg with e | e
    · exact Or.inl e
    · exact Or.inr e.1

/- what the places that are kept mean, behind an op that is new -/
theorem jn_next {S : Dq} {o : Ox} {M M' : List Ent} (I : Inv S) (hnew : isNew S o = true) (hj : Jn M S) (h : ∀ d q, d ≠ o.1 → (q ∈ getJ M' d ↔ q ∈ getJ M d ∨ (d ∈ o.2.2.2.2 ∧ Dm.hasB (next S o).known d.1 d.2 = false ∧ q = o.2.2.1))) : Jn M' (next S o) := by
  obtain ⟨h0, hk, hfew, hdo⟩ := isNew_iff.1 hnew
  obtain ⟨e1, e2, e3, e4⟩ := opE_zero.1 h0
  obtain ⟨d1, d2, d3, d4⟩ := dotE_iff.1 e1
  intro d q hd hun
  obtain ⟨f1, f2, f3, f4⟩ := dotE_iff.1 hd
  rw [kn_next S o d.1 I.klen f1 f2 d1 d2] at hun
  have hne : d ≠ o.1 := by rintro rfl; rw [if_pos rfl] at hun; omega
  have hun2 : kn S d.1 < d.2 := by
    by_cases e : d.1 = o.1.1
    · rw [if_pos e] at hun; rw [e]; omega
    · rw [if_neg e] at hun; exact hun
  have hh : Dm.hasB (next S o).known d.1 d.2 = false := by
    rw [has_eq (inv_next I hnew) hd, kn_next S o d.1 I.klen f1 f2 d1 d2, decide_eq_false]
    omega
  rw [h d q hne, hj d q hd hun2, hh]
  show _ ↔ saw (S.ops ++ [o]) q d = true
  rw [saw_snoc, Bool.or_eq_true]
  by_cases t4 : o.2.1 = 4
  · simp only [t4, decide_true, Bool.true_and, Bool.and_eq_true, decide_eq_true_eq, true_and]
    constructor
    · rintro (e | ⟨e, e9⟩)
      · exact Or.inl e
      · exact Or.inr ⟨e9.symm, e⟩
    · rintro (e | ⟨e9, e⟩)
      · exact Or.inl e
      · exact Or.inr ⟨e, e9.symm⟩
  · have hs : o.2.2.2.2 = [] := (lawOf_zero.1 e4).2.2.1 t4
    rw [hs, decide_eq_false t4]
    simp

end Ii
end Go.Proofs.YtgefpcchcegcpaaGreatDoor
