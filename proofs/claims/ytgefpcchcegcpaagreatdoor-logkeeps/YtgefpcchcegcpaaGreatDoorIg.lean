/- What settle stands on: laws at a step of a region that draws; a row of places that grows. -/
import Derived.Test.YtgefpcchcegcpaaGreatDoorIf
import Derived.Deep.RegionLaw
namespace Go.Proofs.YtgefpcchcegcpaaGreatDoor
namespace Ig
set_option linter.unusedVariables false
open Go.ChangeShapes Go.WideShapes Go.ChangeAt Go.RowKit Cm Ka Kb Na Om Oa Oz Oc Og Oi Hm Ia Ib Ic Idc Ie If
open La (bel bel_drew errV_zero errV_ne own_ge own_grow own_below Lies)

theorem step_drop {ops : Array Oper} {o : Oper} {a : Act} {W : World} {K : Act → World → Prop} {Q : Exit → Act → World → Prop} {E : Prop} (hgd : o.guard = none) (m x : Operand) (hop : o.op = Op.call { callee := Callee.builtin Builtin.delete, args := #[m, x], argTypes := #[72, 31] }) {B : Nat} {M : List Ent} (hm : a.eval m = .map (some B)) (h : MapAt W B M) (d1 d2 : Int) (hx : a.eval x = .agg #[.int .i64 d1, .int .i64 d2])
    (hK : ∀ w', MapAt w' B (delM (d1, d2) M) → W.grownBy w' (some B) → K (a.put o.dst (.tuple #[])) w') : if Region.wanted o (yielded ops a.tmps) = true then Oper.wp Tryz.prog o a W K Q else E := by
  have hw : Region.wanted o (yielded ops a.tmps) = true := by simp [Region.wanted, hgd]
  rw [if_pos hw]
  obtain ⟨w', hrun, r1, r2⟩ := delete_run h d1 d2 o.type
  unfold Oper.wp execOp
  simp only [hop, resolve, invoke, builtin, Sem.run_bind, Sem.run_pure, Result.andThen_ok, List.map_toArray, List.map_cons, List.map_nil, hm, hx, hrun]
  exact hK w' r1 r2
/- the call of a function of two arguments, at a step of a region that draws -/
theorem step_call2 {ops : Array Oper} {o : Oper} {a : Act} {W : World} {K : Act → World → Prop} {Q : Exit → Act → World → Prop} {E : Prop} {R : Value → World → Prop} (hgd : o.guard = none) (F : FuncId) (x y : Operand) (T U : TypeId)
    (ho : o.op = .call { callee := .value (.func F), args := #[x, y], argTypes := #[T, U] }) (v0 v1 : Value) (hx : a.eval x = v0) (hy : a.eval y = v1) (hcf : ∀ args W, (callFunc F args).run Tryz.prog W = .ok (.enter F args) W) (hC : Calls Tryz.prog F #[v0, v1] W fun e w' => ∃ v, e = .returned v ∧ R v w')
    (h : ∀ v w', R v w' → K (a.put o.dst v) w') :
    if Region.wanted o (yielded ops a.tmps) = true then Oper.wp Tryz.prog o a W K Q else E := by
  have hw : Region.wanted o (yielded ops a.tmps) = true := by simp [Region.wanted, hgd]
  rw [if_pos hw]
  have hr : (execOp a.eval o).run Tryz.prog W = .ok (.enter F #[v0, v1]) W := by
    have he : a.eval (.func F) = .func (.func F) #[] #[] := rfl
    unfold execOp
    simp only [ho, resolve, invoke, List.map_toArray, List.map_cons, List.map_nil, hx, hy, he]
    exact hcf _ _
  unfold Oper.wp
  rw [hr, Oper.upon_enter]
  refine hC.mono ?_
  rintro e w' ⟨v, rfl, hR⟩
  exact h v w' hR
theorem enter_knows (args : Array Value) (W : World) : (callFunc 58 args).run Tryz.prog W = .ok (.enter 58 args) W := by
  first | kernel_rfl | simp [callFunc, go_sem, Tryz.func58]
theorem infoS : (Tryz.prog.info? 9).map (fun i => (i.zero, i.size, i.bytes)) = some (some (.string ByteArray.empty), 1, 16) := by kernel_rfl
/- append of one text to a row of the doc's own -/
theorem step_putS {ops : Array Oper} {o : Oper} {a : Act} {W : World} {K : Act → World → Prop} {Q : Exit → Act → World → Prop} {E : Prop} (hgd : o.guard = none) (sO xO : Operand)
    (ho : o.op = .call { callee := .builtin .append, args := #[sO, xO], argTypes := #[119, 119] })
    (v : Value) (l : List ByteArray) (x : ByteArray) (hs : a.eval sO = v) (h0 : Nat) (hx : a.eval xO = .slice (some ⟨h0, 0, none⟩) 1 1)
    (hlen : l.length + 1 ≤ 1048576) (hown : RowS W v l) (hc0 : W.cell? ⟨h0, 0, none⟩ = some (.string x))
    (h : ∀ v' w', RowS w' v' (l ++ [x]) → W.grownBy w' v.ownBlock → (v'.ownBlock = v.ownBlock ∨ v'.ownBlock = some W.heap.size) → K (a.put o.dst v') w') :
    if Region.wanted o (yielded ops a.tmps) = true then Oper.wp Tryz.prog o a W K Q else E := by
  have hw : Region.wanted o (yielded ops a.tmps) = true := by simp [Region.wanted, hgd]
  rw [if_pos hw]
  obtain ⟨i0, hi, hz0, hz1, hz2⟩ := info_parts infoS
  obtain ⟨v', w', hr, h2, h3, _, h5⟩ := run_append_own_at (P := Tryz.prog) W 0 119 o.type 9 i0 (.string ByteArray.empty) 1 16 Tryz.underlying119 hi hz0 hz1 hz2 rfl (by decide) v l.length (l.map Value.string) hown ⟨h0, 0, none⟩ 1 1 [.string x] rfl (by
    intro j u hu
    rw [Addr.add_lit, Nat.zero_add]
    rcases j with _ | j
    · rw [hc0]; exact hu
    · simp at hu) (by intro u hu; rw [List.mem_singleton.1 hu]; rfl) (by unfold maxLen; omega) (by omega) (Nat.zero_le _)
  unfold Oper.wp execOp
  simp only [ho, resolve, invoke, builtin, Sem.run_bind, Sem.run_pure, Result.andThen_ok, List.map_toArray, List.map_cons, List.map_nil, hs, hx, hr]
  refine h v' w' ?_ h3 h5
  unfold RowS
  rw [List.length_append, List.map_append]
  exact h2

/- an entry behind a put: the one that was put, or another one, whose row lies apart from it -/
theorem put_at {d : Dt} {v : Value} {l : List ByteArray} {x : Ent} : ∀ {M : List Ent}, x ∈ putM d v l M → x = (d, v, l) ∨ (x ∈ M ∧ (M.Pairwise Sep → ∀ g, x.2.1.ownBlock = some g → (getV M d).ownBlock ≠ some g))
  | [], h => by left; simpa [putM] using h
  | y :: M, h => by
    rw [putM_cons] at h
    by_cases e : d = y.1
    · rw [if_pos e] at h
      rcases List.mem_cons.1 h with h | h
      · exact Or.inl h
      · refine Or.inr ⟨List.mem_cons_of_mem _ h, fun hp g hg h2 => ?_⟩
        rw [getV_cons, if_pos e] at h2
        exact (List.pairwise_cons.1 hp).1 x h g h2 hg
    · rw [if_neg e] at h
      rcases List.mem_cons.1 h with h | h
      · refine Or.inr ⟨by rw [h]; exact List.mem_cons_self, fun hp g hg h2 => ?_⟩
        rw [getV_cons, if_neg e] at h2
        rcases get_mem d M with ⟨e0, _⟩ | ⟨z, hz, e0, _⟩
        · rw [e0] at h2; cases h2
        · rw [← e0] at h2
          rw [h] at hg
          exact (List.pairwise_cons.1 hp).1 z hz g hg h2
      · rcases put_at h with h | ⟨h, h3⟩
        · exact Or.inl h
        · refine Or.inr ⟨List.mem_cons_of_mem _ h, fun hp g hg h2 => ?_⟩
          rw [getV_cons, if_neg e] at h2
          exact h3 (List.pairwise_cons.1 hp).2 g hg h2

/- a doc without what came: the map's block is written -/
theorem drop_mem {w w' : World} {m : Mem} {S : Dq} {G : Nat → Prop} {d : Dt} (h : DocMem w m S G) (hm : MapAt w' m.B (delM d m.M)) (hg : w.grownBy w' (some m.B)) :
    DocMem w' { m with M := delM d m.M } S G ∧ Chg (fun g => g = m.B) w w' ∧ ∀ g, Wr { m with M := delM d m.M } g → Wr m g := by
  have hsub := del_sub d m.M
  have hw : ∀ g, Wr { m with M := delM d m.M } g → Wr m g := by
    rintro g (e | e | e | ⟨x, hx, e⟩)
    · exact Or.inl e
    · exact Or.inr (Or.inl e)
    · exact Or.inr (Or.inr (Or.inl e))
    · exact Or.inr (Or.inr (Or.inr ⟨x, hsub.subset hx, e⟩))
  have oth : ∀ g, g < w.heap.size → g ≠ m.B → w'.heap[g]? = w.heap[g]? := fun g hl hne => hg.block g hl (fun e => hne (by injection e))
  have hs : Stay G w w' := fun g hgg => oth g (h.lt g hgg) (fun e => h.off g hgg (Or.inr (Or.inl e)))
  have hcell : ∀ g cur t, w.heap[g]? = some (.cells cur t (0, 0)) → g ≠ m.B := fun g cur t h9 e => by
    obtain ⟨es, clock, hb, _⟩ := h.map
    rw [e, hb] at h9; cases h9
  obtain ⟨L, o1, o2, o3⟩ := h.ops
  refine ⟨⟨?_, book_stay h.book h.bookG hs, h.bookG, marks_stay h.marks h.marksG hs, h.marksG, known_stay h.known h.knownG hs, h.knownG, ⟨L, o1, own_stay o2 (fun g hgg => ?_), fun y hy => ⟨dots_stay (o3 y hy).1 (o3 y hy).2 hs, (o3 y hy).2⟩⟩, hm, fun x hx => own_stay (h.rows x (hsub.subset hx)) (fun g hgg => ?_), h.apart.sublist hsub, fun g hgg => Nat.lt_of_lt_of_le (h.lt g hgg) hg.size, fun g hgg e => h.off g hgg (hw g e)⟩, Chg.grown hg (fun g e => by injection e with e; exact e.symm), hw⟩
  · rw [oth _ (Array.getElem?_eq_some_iff.1 h.blk).1 (hcell _ _ _ h.blk)]; exact h.blk
  · obtain ⟨hl, cur, hc⟩ := own_lt o2 g hgg
    exact oth g hl (hcell g cur _ hc)
  · obtain ⟨hl, cur, hc⟩ := own_lt (h.rows x (hsub.subset hx)) g hgg
    exact oth g hl (hcell g cur _ hc)
/- .. with one place more at a dot: its row and the map's block are written -/
theorem put_memd {w w' : World} {m : Mem} {S : Dq} {G : Nat → Prop} {d : Dt} {v' : Value} {p : ByteArray} (h : DocMem w m S G) (hm : MapAt w' m.B (putM d v' (getJ m.M d ++ [p]) m.M)) (hr : RowS w' v' (getJ m.M d ++ [p]))
    (hc : Chg (fun g => g = m.B ∨ (getV m.M d).ownBlock = some g) w w') (hv : ∀ g, v'.ownBlock = some g → (getV m.M d).ownBlock = some g ∨ w.heap.size ≤ g) :
    DocMem w' { m with M := putM d v' (getJ m.M d ++ [p]) m.M } S G ∧ Chg (Wr m) w w' ∧ ∀ g, Wr { m with M := putM d v' (getJ m.M d ++ [p]) m.M } g → Wr m g ∨ w.heap.size ≤ g := by
  have hgv : ∀ g, (getV m.M d).ownBlock = some g → ∃ x ∈ m.M, x.2.1.ownBlock = some g ∧ x.2.1 = getV m.M d := fun g hg => by
    rcases get_mem d m.M with ⟨e, _⟩ | ⟨x, hx, e, _⟩
    · rw [e] at hg; cases hg
    · exact ⟨x, hx, by rw [e]; exact hg, e⟩
  have hw : ∀ g, Wr { m with M := putM d v' (getJ m.M d ++ [p]) m.M } g → Wr m g ∨ w.heap.size ≤ g := by
    rintro g (e | e | e | ⟨x, hx, e⟩)
    · exact Or.inl (Or.inl e)
    · exact Or.inl (Or.inr (Or.inl e))
    · exact Or.inl (Or.inr (Or.inr (Or.inl e)))
    · rcases put_mem hx with rfl | hx
      · rcases hv g e with e | e
        · obtain ⟨y, hy, e2, _⟩ := hgv g e
          exact Or.inl (Or.inr (Or.inr (Or.inr ⟨y, hy, e2⟩)))
        · exact Or.inr e
      · exact Or.inl (Or.inr (Or.inr (Or.inr ⟨x, hx, e⟩)))
  have hcw : ∀ g, (g = m.B ∨ (getV m.M d).ownBlock = some g) → Wr m g := fun g hg => by
    rcases hg with e | e
    · exact Or.inr (Or.inl e)
    · obtain ⟨y, hy, e2, _⟩ := hgv g e
      exact Or.inr (Or.inr (Or.inr ⟨y, hy, e2⟩))
  have hs : Stay G w w' := hc.stay fun g hgg => ⟨h.lt g hgg, fun e => h.off g hgg (hcw g e)⟩
  have hvt : ∀ g, (getV m.M d).ownBlock = some g → ∃ cur, w.heap[g]? = some (.cells cur 9 (0, 0)) := fun g hg => by
    obtain ⟨y, hy, e2, _⟩ := hgv g hg
    exact (own_lt (h.rows y hy) g e2).2
  have hcell : ∀ g cur t, w.heap[g]? = some (.cells cur t (0, 0)) → t ≠ 9 → ¬ (g = m.B ∨ (getV m.M d).ownBlock = some g) := fun g cur t h9 ht e => by
    rcases e with e | e
    · obtain ⟨es, clock, hb, _⟩ := h.map
      rw [e, hb] at h9; cases h9
    · obtain ⟨cur2, h8⟩ := hvt g e
      rw [h8] at h9
      injection h9 with h9
      injection h9 with _ h9 _
      exact ht h9.symm
  obtain ⟨L, o1, o2, o3⟩ := h.ops
  refine ⟨⟨?_, book_stay h.book h.bookG hs, h.bookG, marks_stay h.marks h.marksG hs, h.marksG, known_stay h.known h.knownG hs, h.knownG, ⟨L, o1, own_stay o2 (fun g hgg => ?_), fun y hy => ⟨dots_stay (o3 y hy).1 (o3 y hy).2 hs, (o3 y hy).2⟩⟩, hm, fun x hx => ?_, ?_, fun g hgg => Nat.lt_of_lt_of_le (h.lt g hgg) hc.size, fun g hgg e => ?_⟩, hc.mono hcw, hw⟩
  · rw [hc.block _ (Array.getElem?_eq_some_iff.1 h.blk).1 (hcell _ _ _ h.blk (by decide))]; exact h.blk
  · obtain ⟨hl, cur, hcc⟩ := own_lt o2 g hgg
    exact hc.block g hl (hcell g cur _ hcc (by decide))
  · rcases put_at hx with rfl | ⟨hx, hne⟩
    · exact hr
    · refine own_stay (h.rows x hx) fun g hgg => ?_
      obtain ⟨hl, cur, hcc⟩ := own_lt (h.rows x hx) g hgg
      refine hc.block g hl ?_
      rintro (e | e)
      · obtain ⟨es, clock, hb, _⟩ := h.map
        rw [e, hb] at hcc; cases hcc
      · exact hne h.apart g hgg e
  · exact put_apart h.apart fun g hgg => by
      rcases hv g hgg with e | e
      · exact Or.inl e
      · refine Or.inr fun x hx e2 => ?_
        have := (own_lt (h.rows x hx) g e2).1
        omega
  · rcases hw g e with e | e
    · exact h.off g hgg e
    · have := h.lt g hgg; omega

end Ig
end Go.Proofs.YtgefpcchcegcpaaGreatDoor
