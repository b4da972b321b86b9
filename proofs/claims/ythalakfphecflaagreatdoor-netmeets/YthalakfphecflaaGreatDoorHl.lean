/- Package net: a net in memory: its block, its docs in a row, its parcels in a row. -/
import Derived.Test.YthalakfphecflaaGreatDoorHd
import Derived.Test.YthalakfphecflaaGreatDoorHi
import Derived.Test.YthalakfphecflaaGreatDoorJ13
import Derived.Deep.RegionLaw
import Derived.Deep.RegionHeld3
namespace Go.Proofs.YthalakfphecflaaGreatDoor
namespace Hl
set_option linter.unusedVariables false
set_option linter.unusedSimpArgs false
open Go.ChangeShapes Go.WideShapes Go.ChangeAt Go.RowKit Cm Ka Kb Na Om Oa Oz Oc Og Oi Hm Ia Ic Ie Aa Hc Hd Hi
open La (bel bel_drew errV_zero errV_ne own_ge own_grow own_below Lies)

abbrev Pc := Nat × ByteArray
def pz : Pc := (0, ⟨#[]⟩)
def cellsP (x : Pc) : List Value := [.int .i64 x.1, .string x.2]
def flatP (l : List Pc) : List Value := l.flatMap cellsP
theorem flatP_append (a b : List Pc) : flatP (a ++ b) = flatP a ++ flatP b := by unfold flatP; rw [List.flatMap_append]
theorem flatP_length : ∀ l : List Pc, (flatP l).length = l.length * 2
  | [] => rfl
  | x :: l => by
    have e : flatP (x :: l) = cellsP x ++ flatP l := rfl
    rw [e, List.length_append, flatP_length l, List.length_cons]
    show 2 + _ = _
    omega
theorem flatP_at : ∀ (l : List Pc) (j : Nat), j < l.length → ∀ i u, (cellsP (l.getD j pz))[i]? = some u → (flatP l)[j * 2 + i]? = some u
  | [], j, h, _, _, _ => absurd h (Nat.not_lt_zero j)
  | x :: l, 0, h, i, u, hu => by
    have e : flatP (x :: l) = cellsP x ++ flatP l := rfl
    have hu2 : (cellsP x)[i]? = some u := hu
    rw [e, Nat.zero_mul, Nat.zero_add, List.getElem?_append_left (List.getElem?_eq_some_iff.1 hu2).1]
    exact hu2
  | x :: l, j + 1, h, i, u, hu => by
    have e : flatP (x :: l) = cellsP x ++ flatP l := rfl
    have hl : (cellsP x).length = 2 := rfl
    rw [e, List.getElem?_append_right (by rw [hl]; omega), hl, show (j + 1) * 2 + i - 2 = j * 2 + i by omega]
    exact flatP_at l j (by simpa using h) i u hu
theorem flatP_one (l : List Pc) : ∀ u ∈ flatP l, u.oneCell' = true := by
  intro u hu
  unfold flatP at hu
  obtain ⟨x, _, hx⟩ := List.mem_flatMap.1 hu
  unfold cellsP at hx
  simp only [List.mem_cons, List.not_mem_nil, or_false] at hx
  rcases hx with rfl | rfl <;> rfl
def RowP (w : World) (v : Value) (l : List Pc) : Prop := w.ownsRow 0 108 2 v l.length (flatP l)
def ptrs (n : Nat) (E : Nat → Nat) : List Value := (List.range n).map fun i => ptr (E i)
theorem ptrs_push (n : Nat) (E : Nat → Nat) (D : Nat) : ptrs (n + 1) (upd E n D) = ptrs n E ++ [ptr D] := by
  unfold ptrs
  rw [List.range_succ, List.map_append]
  congr 1
  · apply List.map_congr_left
    intro i hi
    rw [upd_other _ _ (by have := List.mem_range.1 hi; omega)]
  · show [ptr (upd E n D n)] = _
    rw [upd_same]
theorem ptrs_at {n : Nat} {E : Nat → Nat} {i : Nat} (h : i < n) : (ptrs n E)[i]? = some (ptr (E i)) := by
  unfold ptrs
  rw [List.getElem?_map, List.getElem?_range h]
  rfl
def RowE (w : World) (v : Value) (n : Nat) (E : Nat → Nat) : Prop := w.ownsRow 0 46 1 v n (ptrs n E)
abbrev NtB (w : World) (X : Nat) (vd vu : Value) : Prop := w.heap[X]? = some (.cells #[vd, vu] 65)
structure NAt (w : World) (X : Nat) (vd vu : Value) (N : Nt) (E : Nat → Nat) (Fd : Nat → Nat → Prop) : Prop where
  blk : NtB w X vd vu
  rd : RowE w vd N.ds.length E
  ru : RowP w vu N.us
  docs : Rowd docK w N.ds.length E (dq N) Fd
  off : ¬ All N.ds.length Fd X
  ofd : ∀ g, vd.ownBlock = some g → ¬ All N.ds.length Fd g
  ofu : ∀ g, vu.ownBlock = some g → ¬ All N.ds.length Fd g
  few : N.ds.length ≤ 4
  sz : ∀ p ∈ N.us, p.2.size ≤ maxLen
def Fs (X : Nat) (vd vu : Value) (n : Nat) (Fd : Nat → Nat → Prop) (g : Nat) : Prop := g = X ∨ vd.ownBlock = some g ∨ vu.ownBlock = some g ∨ All n Fd g
def At (w : World) (X : Nat) (N : Nt) (F : Nat → Prop) : Prop := ∃ vd vu E Fd, NAt w X vd vu N E Fd ∧ ∀ g, F g ↔ Fs X vd vu N.ds.length Fd g
/- blocks of other kinds are other blocks -/
theorem kind_ne {w : World} {base z n : Nat} {t s : TypeId} {v : Value} {xs : List Value} (h : w.ownsRow base t z v n xs) {X : Nat} {cs : Array Value} {f : Nat × Nat} (hX : w.heap[X]? = some (.cells cs s f)) (ht : t ≠ s) : ∀ g, v.ownBlock = some g → g ≠ X := fun g hg e => by
  obtain ⟨_, cur, hc⟩ := own_lt h g hg
  rw [e, hX] at hc
  injection hc with hc
  injection hc with _ hc _
  exact ht hc.symm
theorem kind_off {w : World} {base z n base' z' n' : Nat} {t s : TypeId} {v u : Value} {xs ys : List Value} (h : w.ownsRow base t z v n xs) (h' : w.ownsRow base' s z' u n' ys) (ht : t ≠ s) : ∀ g, v.ownBlock = some g → u.ownBlock ≠ some g := fun g hg e => by
  obtain ⟨_, cur, hc⟩ := own_lt h' g e
  exact kind_ne h hc ht g hg rfl
section
variable {w w' : World} {X : Nat} {vd vu : Value} {N : Nt} {E : Nat → Nat} {Fd : Nat → Nat → Prop} {F : Nat → Prop}
theorem NAt.ltX (h : NAt w X vd vu N E Fd) : X < w.heap.size := (Array.getElem?_eq_some_iff.1 h.blk).1
theorem NAt.lt (h : NAt w X vd vu N E Fd) : ∀ g, Fs X vd vu N.ds.length Fd g → g < w.heap.size := by
  rintro g (e | e | e | e)
  · rw [e]; exact h.ltX
  · exact (own_lt h.rd g e).1
  · exact (own_lt h.ru g e).1
  · exact h.docs.lt g e
theorem NAt.stay (h : NAt w X vd vu N E Fd) (hs : Stay (Fs X vd vu N.ds.length Fd) w w') (hz : w.heap.size ≤ w'.heap.size) : NAt w' X vd vu N E Fd :=
  ⟨by unfold NtB; rw [hs X (Or.inl rfl)]; exact h.blk, own_stay h.rd fun g e => hs g (Or.inr (Or.inl e)), own_stay h.ru fun g e => hs g (Or.inr (Or.inr (Or.inl e))), h.docs.stay (fun g e => hs g (Or.inr (Or.inr (Or.inr e)))) hz, h.off, h.ofd, h.ofu, h.few, h.sz⟩
theorem NAt.below (h : NAt w X vd vu N E Fd) (hb : Below w.heap.size w w') : NAt w' X vd vu N E Fd := h.stay (fun g hg => hb.block g (h.lt g hg)) hb.size
theorem At.lt (h : At w X N F) : ∀ g, F g → g < w.heap.size := by obtain ⟨vd, vu, E, Fd, m, hF⟩ := h; exact fun g hg => m.lt g ((hF g).1 hg)
theorem At.stay (h : At w X N F) (hs : Stay F w w') (hz : w.heap.size ≤ w'.heap.size) : At w' X N F := by
  obtain ⟨vd, vu, E, Fd, m, hF⟩ := h
  exact ⟨vd, vu, E, Fd, m.stay (fun g hg => hs g ((hF g).2 hg)) hz, hF⟩
theorem At.below (h : At w X N F) (hb : Below w.heap.size w w') : At w' X N F := h.stay (fun g hg => hb.block g (h.lt g hg)) hb.size
theorem NAt.dX (h : NAt w X vd vu N E Fd) : ∀ g, vd.ownBlock = some g → g ≠ X := kind_ne h.rd h.blk (by decide)
theorem NAt.uX (h : NAt w X vd vu N E Fd) : ∀ g, vu.ownBlock = some g → g ≠ X := kind_ne h.ru h.blk (by decide)
theorem NAt.du (h : NAt w X vd vu N E Fd) : ∀ g, vd.ownBlock = some g → vu.ownBlock ≠ some g := kind_off h.rd h.ru (by decide)
end
/- what a call leaves -/
def Left' (w : World) (X : Nat) (F : Nat → Prop) (N' : Nt) (w' : World) : Prop := ∃ F', At w' X N' F' ∧ Chg F w w' ∧ ∀ g, F' g → F g ∨ w.heap.size ≤ g
theorem left_same {w w' : World} {X : Nat} {F : Nat → Prop} {N : Nt} (h : At w X N F) (hb : Below w.heap.size w w') : Left' w X F N w' := ⟨F, h.below hb, Chg.ofBelow hb F, fun g e => Or.inl e⟩
theorem Left'.first {w w1 w' : World} {X : Nat} {F : Nat → Prop} {N : Nt} (hb : Below w.heap.size w w1) (h : Left' w1 X F N w') : Left' w X F N w' := by
  obtain ⟨F', h1, h2, h3⟩ := h
  exact ⟨F', h1, (Chg.ofBelow hb F).trans h2, fun g hg => (h3 g hg).imp id fun e => Nat.le_trans hb.size e⟩
theorem Left'.then {w w1 w' : World} {X : Nat} {F : Nat → Prop} {N : Nt} (h : Left' w X F N w1) (hb : Below w1.heap.size w1 w') : Left' w X F N w' := by
  obtain ⟨F', h1, h2, h3⟩ := h
  exact ⟨F', h1.below hb, h2.trans (Chg.ofBelow hb F), h3⟩
theorem left_mk {w w' : World} {X : Nat} {F : Nat → Prop} {vd vu vd' vu' : Value} {N N' : Nt} {E' : Nat → Nat} {Fd Fd' : Nat → Nat → Prop} (hF : ∀ g, F g ↔ Fs X vd vu N.ds.length Fd g) (h : NAt w' X vd' vu' N' E' Fd') (hc : Chg (Fs X vd vu N.ds.length Fd) w w') (hl : ∀ g, Fs X vd' vu' N'.ds.length Fd' g → Fs X vd vu N.ds.length Fd g ∨ w.heap.size ≤ g) : Left' w X F N' w' :=
  ⟨Fs X vd' vu' N'.ds.length Fd', ⟨vd', vu', E', Fd', h, fun g => Iff.rfl⟩, hc.mono fun g e => (hF g).2 e, fun g e => (hl g e).imp (hF g).2 id⟩
theorem dq_set {N : Nt} {i j : Nat} (T : Dq) (hi : i < N.ds.length) : dq { N with ds := N.ds.set i T } j = upd (dq N) i T j := by
  unfold dq upd
  show (N.ds.set i T).getD j d0 = _
  rw [List.getD_eq_getElem?_getD, List.getElem?_set]
  by_cases h : i = j
  · subst h; rw [if_pos rfl, if_pos hi, if_pos rfl]; rfl
  · rw [if_neg h, if_neg (Ne.symm h)]; exact (List.getD_eq_getElem?_getD ..).symm
theorem dq_push {N : Nt} {j : Nat} (T : Dq) (hj : j < N.ds.length + 1) : dq { N with ds := N.ds ++ [T] } j = upd (dq N) N.ds.length T j := by
  unfold dq upd
  show (N.ds ++ [T]).getD j d0 = _
  rw [List.getD_eq_getElem?_getD]
  by_cases h : j = N.ds.length
  · subst h; rw [if_pos rfl, List.getElem?_append_right (Nat.le_refl _), Nat.sub_self]; rfl
  · rw [if_neg h, List.getElem?_append_left (by omega)]; exact (List.getD_eq_getElem?_getD ..).symm
/- one doc changes -/
theorem NAt.turn {w w' : World} {X : Nat} {vd vu : Value} {N : Nt} {E : Nat → Nat} {Fd : Nat → Nat → Prop} (h : NAt w X vd vu N E Fd) {i : Nat} (hi : i < N.ds.length) {T : Dq} {G : Nat → Prop} (hA : DocAt w' (E i) T G) (hc : Chg (Fd i) w w') (hG : ∀ g, G g → Fd i g ∨ w.heap.size ≤ g) :
    NAt w' X vd vu { N with ds := N.ds.set i T } E (upd Fd i G) ∧ Chg (Fs X vd vu N.ds.length Fd) w w' ∧ ∀ g, Fs X vd vu (N.ds.set i T).length (upd Fd i G) g → Fs X vd vu N.ds.length Fd g ∨ w.heap.size ≤ g := by
  have hl : (N.ds.set i T).length = N.ds.length := List.length_set
  have hall := Rowd.turn_all (w := w) (F := Fd) hi hG
  refine ⟨⟨?_, ?_, ?_, ?_, ?_, ?_, ?_, ?_, h.sz⟩, hc.mono fun g e => Or.inr (Or.inr (Or.inr ⟨i, hi, e⟩)), ?_⟩
  · unfold NtB; rw [hc.block X h.ltX (fun e => h.off ⟨i, hi, e⟩)]; exact h.blk
  · show RowE w' vd (N.ds.set i T).length E
    rw [hl]
    exact own_stay h.rd fun g e => hc.block g (own_lt h.rd g e).1 (fun e2 => h.ofd g e ⟨i, hi, e2⟩)
  · exact own_stay h.ru fun g e => hc.block g (own_lt h.ru g e).1 (fun e2 => h.ofu g e ⟨i, hi, e2⟩)
  · show Rowd docK w' (N.ds.set i T).length E _ _
    rw [hl]
    exact (h.docs.turn (K := docK) hi hA hc hG).same (fun _ _ => rfl) (fun j hj => dq_set T hi)
  · show ¬ All (N.ds.set i T).length _ X
    rw [hl]
    intro e
    rcases hall X e with e | e
    · exact h.off e
    · have := h.ltX; omega
  · intro g hg
    show ¬ All (N.ds.set i T).length _ g
    rw [hl]
    intro e
    rcases hall g e with e | e
    · exact h.ofd g hg e
    · have := (own_lt h.rd g hg).1; omega
  · intro g hg
    show ¬ All (N.ds.set i T).length _ g
    rw [hl]
    intro e
    rcases hall g e with e | e
    · exact h.ofu g hg e
    · have := (own_lt h.ru g hg).1; omega
  · show (N.ds.set i T).length ≤ 4
    rw [hl]; exact h.few
  · rw [hl]
    rintro g (e | e | e | e)
    · exact Or.inl (Or.inl e)
    · exact Or.inl (Or.inr (Or.inl e))
    · exact Or.inl (Or.inr (Or.inr (Or.inl e)))
    · rcases hall g e with e | e
      · exact Or.inl (Or.inr (Or.inr (Or.inr e)))
      · exact Or.inr e
/- what is under way is another row -/
theorem NAt.set_u {w w1 : World} {X : Nat} {vd vu vu' : Value} {N : Nt} {E : Nat → Nat} {Fd : Nat → Nat → Prop} {us' : List Pc} (h : NAt w X vd vu N E Fd) (hc : Chg (fun g => vu.ownBlock = some g) w w1) (hr : RowP w1 vu' us') (hl : ∀ g, vu'.ownBlock = some g → vu.ownBlock = some g ∨ w.heap.size ≤ g) (hs : ∀ p ∈ us', p.2.size ≤ maxLen) :
    NAt (w1.setCell ⟨X, 1, none⟩ vu') X vd vu' { N with us := us' } E Fd ∧ Chg (Fs X vd vu N.ds.length Fd) w (w1.setCell ⟨X, 1, none⟩ vu') ∧ ∀ g, Fs X vd vu' N.ds.length Fd g → Fs X vd vu N.ds.length Fd g ∨ w.heap.size ≤ g := by
  have hX := h.ltX
  have hb1 : NtB w1 X vd vu := by unfold NtB; rw [hc.block X hX (fun e => h.uX X e rfl)]; exact h.blk
  have hC : Chg (Fs X vd vu N.ds.length Fd) w (w1.setCell ⟨X, 1, none⟩ vu') := Chg.setCell (F := Fs X vd vu N.ds.length Fd) (hc.mono fun g e => Or.inr (Or.inr (Or.inl e))) (p := ⟨X, 1, none⟩) (Or.inl rfl) _
  refine ⟨⟨?_, ?_, ?_, ?_, h.off, h.ofd, ?_, h.few, hs⟩, hC, ?_⟩
  · unfold NtB; rw [set_heap hb1]; rfl
  · exact own_stay h.rd fun g e => by
      rw [set_block _ _ _ _ (h.dX g e)]
      exact hc.block g (own_lt h.rd g e).1 (h.du g e)
  · exact own_stay hr fun g e => set_block _ _ _ _ (kind_ne hr hb1 (by decide) g e)
  · refine h.docs.stay (fun g e => ?_) hC.size
    rw [set_block _ _ _ _ (fun e9 : g = X => h.off (e9 ▸ e))]
    exact hc.block g (h.docs.lt g e) (fun e2 => h.ofu g e2 e)
  · intro g hg e
    rcases hl g hg with e2 | e2
    · exact h.ofu g e2 e
    · have := h.docs.lt g e; omega
  · rintro g (e | e | e | e)
    · exact Or.inl (Or.inl e)
    · exact Or.inl (Or.inr (Or.inl e))
    · rcases hl g e with e | e
      · exact Or.inl (Or.inr (Or.inr (Or.inl e)))
      · exact Or.inr e
    · exact Or.inl (Or.inr (Or.inr (Or.inr e)))
/- one more doc -/
theorem NAt.push {w w2 w3 : World} {X : Nat} {vd vd' vu : Value} {N : Nt} {E : Nat → Nat} {Fd : Nat → Nat → Prop} {D : Nat} {T : Dq} {G : Nat → Prop} (h : NAt w X vd vu N E Fd) (hb : Below w.heap.size w w2) (hD : DocAt w2 D T G) (hG : ∀ g, G g → w.heap.size ≤ g) (hc : Chg (fun g => vd.ownBlock = some g) w2 w3) (hr : RowE w3 vd' (N.ds.length + 1) (upd E N.ds.length D)) (hl : ∀ g, vd'.ownBlock = some g → vd.ownBlock = some g ∨ w2.heap.size ≤ g) (hk : N.ds.length + 1 ≤ 4) :
    NAt (w3.setCell ⟨X, 0, none⟩ vd') X vd' vu { N with ds := N.ds ++ [T] } (upd E N.ds.length D) (upd Fd N.ds.length G) := by
  have hX := h.ltX
  have h2 := h.below hb
  have hn : (N.ds ++ [T]).length = N.ds.length + 1 := by rw [List.length_append]; rfl
  have hb3 : NtB w3 X vd vu := by unfold NtB; rw [hc.block X h2.ltX (fun e => h2.dX X e rfl)]; exact h2.blk
  have hdocs := h.docs.push (K := docK) hb hD hG
  have hall : ∀ g, All (N.ds.length + 1) (upd Fd N.ds.length G) g → All N.ds.length Fd g ∨ w.heap.size ≤ g := by
    rintro g ⟨j, hj, hg⟩
    by_cases e : j = N.ds.length
    · subst e; rw [upd_same] at hg; exact Or.inr (hG g hg)
    · rw [upd_other _ _ e] at hg; exact Or.inl ⟨j, by omega, hg⟩
  have hnd : ∀ g, vd.ownBlock = some g → ¬ All (N.ds.length + 1) (upd Fd N.ds.length G) g := fun g hg e => by
    rcases hall g e with e | e
    · exact h.ofd g hg e
    · have := (own_lt h.rd g hg).1; omega
  have hnX : ¬ All (N.ds.length + 1) (upd Fd N.ds.length G) X := fun e => by
    rcases hall X e with e | e
    · exact h.off e
    · omega
  refine ⟨?_, ?_, ?_, ?_, ?_, ?_, ?_, ?_, h.sz⟩
  · unfold NtB; rw [set_heap hb3]; rfl
  · show RowE _ vd' (N.ds ++ [T]).length _
    rw [hn]
    exact own_stay hr fun g e => set_block _ _ _ _ (kind_ne hr hb3 (by decide) g e)
  · exact own_stay h2.ru fun g e => by
      rw [set_block _ _ _ _ (h2.uX g e)]
      exact hc.block g (own_lt h2.ru g e).1 (fun e2 => h2.du g e2 e)
  · show Rowd docK _ (N.ds ++ [T]).length _ _ _
    rw [hn]
    refine Rowd.same (hdocs.stay (fun g e => ?_) (by rw [set_size]; exact hc.size)) (fun _ _ => rfl) (fun j hj => dq_push T hj)
    rw [set_block _ _ _ _ (fun e9 : g = X => hnX (e9 ▸ e))]
    exact hc.block g (hdocs.lt g e) (fun e2 => hnd g e2 e)
  · show ¬ All (N.ds ++ [T]).length _ X
    rw [hn]; exact hnX
  · intro g hg
    show ¬ All (N.ds ++ [T]).length _ g
    rw [hn]
    rcases hl g hg with e | e
    · exact hnd g e
    · intro e2; have := hdocs.lt g e2; omega
  · intro g hg
    show ¬ All (N.ds ++ [T]).length _ g
    rw [hn]
    intro e
    rcases hall g e with e | e
    · exact h.ofu g hg e
    · have := (own_lt h.ru g hg).1; omega
  · show (N.ds ++ [T]).length ≤ 4
    rw [hn]; exact hk
/- a doc's pointer in its row -/
theorem NAt.cellD {w : World} {X : Nat} {vd vu : Value} {N : Nt} {E : Nat → Nat} {Fd : Nat → Nat → Prop} (h : NAt w X vd vu N E Fd) : ∃ p c, vd = .slice p N.ds.length c ∧ N.ds.length ≤ c ∧ c ≤ maxLen ∧ (0 < N.ds.length → ∃ g, p = some ⟨g, 0, none⟩ ∧ ∀ i, i < N.ds.length → w.cell? ⟨g, i, none⟩ = some (ptr (E i))) := by
  rcases h.rd.2 with ⟨e, e0⟩ | ⟨g, cap, cur, h1, h2, h3, h4, h5, h6, h7⟩
  · exact ⟨none, 0, by rw [e, e0], by omega, Nat.zero_le _, fun h9 => by omega⟩
  · refine ⟨_, cap, h1, h4, h5, fun _ => ⟨g, rfl, fun i hi => ?_⟩⟩
    have h9 := World.ownsRow.cells h.rd (g := g) (by rw [h1]; rfl) i _ (ptrs_at hi)
    rw [Addr.add_lit, Nat.zero_add] at h9
    exact h9
theorem NAt.cellU {w : World} {X : Nat} {vd vu : Value} {N : Nt} {E : Nat → Nat} {Fd : Nat → Nat → Prop} (h : NAt w X vd vu N E Fd) : ∃ p c, vu = .slice p N.us.length c ∧ N.us.length ≤ c ∧ c ≤ maxLen ∧ (0 < N.us.length → ∃ g, p = some ⟨g, 0, none⟩ ∧ ∀ i, i < N.us.length → w.cell? ⟨g, i * 2, none⟩ = some (.int .i64 (N.us.getD i pz).1) ∧ w.cell? ⟨g, i * 2 + 1, none⟩ = some (.string (N.us.getD i pz).2)) := by
  rcases h.ru.2 with ⟨e, e0⟩ | ⟨g, cap, cur, h1, h2, h3, h4, h5, h6, h7⟩
  · exact ⟨none, 0, by rw [e, e0], by omega, Nat.zero_le _, fun h9 => by omega⟩
  · refine ⟨_, cap, h1, h4, h5, fun _ => ⟨g, rfl, fun i hi => ⟨?_, ?_⟩⟩⟩
    · have h9 := World.ownsRow.cells h.ru (g := g) (by rw [h1]; rfl) _ _ (flatP_at N.us i hi 0 _ rfl)
      rw [Addr.add_lit, Nat.zero_add, Nat.add_zero] at h9
      exact h9
    · have h9 := World.ownsRow.cells h.ru (g := g) (by rw [h1]; rfl) _ _ (flatP_at N.us i hi 1 _ rfl)
      rw [Addr.add_lit, Nat.zero_add] at h9
      exact h9

end Hl
end Go.Proofs.YthalakfphecflaaGreatDoor
