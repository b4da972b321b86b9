/- What DocMeets stands on: ops that are taken in whichever order, rows of them. -/
import Derived.Test.YtllcmfbkingfdaaGreatJ13
import Derived.Test.YtllcmfbkingfdaaGreatJ6
namespace Go.Proofs.YtllcmfbkingfdaaGreat
namespace Iq
set_option linter.unusedVariables false
open Go.ChangeShapes Go.WideShapes Go.ChangeAt Go.RowKit Cm Ka Kb Na Om Oa Oz Oc Og Oi Hm Ia Ib Ic Idc Ie If Ig Ih Ii Ij Ik Il Im
open La (bel bel_drew errV_zero errV_ne own_ge own_grow own_below Lies)
open Lj (BookAt BookNew)

def nb : ByteArray := ⟨#[110, 98]⟩
def o2 : Ox := ((2, 1), 1, nb, 104, [])
def d2 : Dq := apS d0 o2
theorem new2 : isNew d0 o2 = true := by kernel_rfl
theorem ap2 : apE d0 o2 = 0 := by kernel_rfl
theorem text2 : Lf.textR d2.book = ⟨#[104]⟩ := by kernel_rfl

/- ops that are applied one behind the other -/
def run (l : List Ox) (k : Nat) : Dq := (l.take k).foldl apS d0
theorem run_next {l : List Ox} {k : Nat} (hk : k < l.length) : run l (k + 1) = apS (run l k) (l.getD k oz) := by
  unfold run; rw [Im.take_next hk, List.foldl_append]; rfl
theorem run_inv (l : List Ox) (k : Nat) : Inv (run l k) := by
  unfold run
  generalize l.take k = m
  suffices h : ∀ (m : List Ox) (S : Dq), Inv S → Inv (m.foldl apS S) from h m d0 inv_zero
  intro m
  induction m with
  | nil => intro S h; exact h
  | cons o m ih => intro S h; exact ih _ (inv_ap h)
theorem run_ord (l : List Ox) (k : Nat) : Ord (run l k) := by
  unfold run
  generalize l.take k = m
  suffices h : ∀ (m : List Ox) (S : Dq), Inv S → Ord S → Ord (m.foldl apS S) from h m d0 inv_zero ord_zero
  intro m
  induction m with
  | nil => intro S _ h; exact h
  | cons o m ih => intro S h h2; exact ih _ (inv_ap h) (ord_ap h h2)
theorem ops_new {S : Dq} {o : Ox} (h : isNew S o = true) : (apS S o).ops = S.ops ++ [o] := by unfold apS; rw [h, if_pos rfl]; rfl
theorem ops_old {S : Dq} {o : Ox} (h : isNew S o = false) : (apS S o).ops = S.ops := by unfold apS; rw [h]; rfl
theorem new_zero {S : Dq} {o : Ox} (h : isNew S o = true) : apE S o = 0 := by
  obtain ⟨h0, hk, hf, hd⟩ := isNew_iff.1 h
  unfold apE
  rw [if_neg (by simpa using h0), if_neg (by omega), if_neg (by omega), if_neg (by omega)]
  exact hd

/- what was taken of S's ops is T's; L is left, in the order of each author -/
structure MT (S T : Dq) (L : List Ox) : Prop where
  inv : Inv T
  perm : (T.ops ++ L).Perm S.ops
  seq : Seq (fun w => kn T w) L
  right : ∀ o ∈ L, opE o = 0
  few : S.ops.length ≤ 400
theorem MT.start {S : Dq} (I : Inv S) (O : Ord S) : MT S d0 S.ops :=
  ⟨inv_zero, List.Perm.refl _, seq_congr (fun o ho => by
    obtain ⟨d1, d2, _, _⟩ := dotE_iff.1 (opE_zero.1 (I.right o ho)).1
    exact (ord_zero.kn _ d1 d2).symm) O.seq, I.right, I.few⟩
theorem MT.len {S T : Dq} {L : List Ox} (h : MT S T L) : T.ops.length + L.length ≤ 400 := by
  have := h.perm.length_eq
  rw [List.length_append] at this
  have := h.few
  omega
theorem MT.next {S T : Dq} {a b : List Ox} {x : Ox} (h : MT S T (a ++ x :: b)) (hn : ∀ o ∈ a, o.1.1 ≠ x.1.1) : opE x = 0 ∧ kn T x.1.1 + 1 = x.1.2 ∧ T.ops.length < 400 := by
  have h1 := (seq_take h.seq hn).1
  have h2 := h.len
  rw [List.length_append, List.length_cons] at h2
  exact ⟨h.right x (by simp), h1, by omega⟩
theorem MT.step {S T : Dq} {a b : List Ox} {x : Ox} (h : MT S T (a ++ x :: b)) (hn : ∀ o ∈ a, o.1.1 ≠ x.1.1) (hw : isNew T x = true) : MT S (apS T x) (a ++ b) := by
  have hx := h.right x (by simp)
  obtain ⟨d1, d2, _, _⟩ := dotE_iff.1 (opE_zero.1 hx).1
  refine ⟨inv_ap h.inv, ?_, ?_, fun o ho => h.right o ?_, h.few⟩
  · rw [ops_new hw, List.append_assoc]
    refine List.Perm.trans ?_ h.perm
    have hp : (x :: (a ++ b)).Perm (a ++ x :: b) := List.perm_middle.symm
    exact List.Perm.append_left _ hp
  · refine seq_congr (fun o ho => ?_) (seq_take h.seq hn).2
    have ho2 := h.right o (by rcases List.mem_append.1 ho with e | e; exact List.mem_append_left _ e; exact List.mem_append_right _ (List.mem_cons_of_mem _ e))
    obtain ⟨e1, e2, _, _⟩ := dotE_iff.1 (opE_zero.1 ho2).1
    unfold apS
    rw [hw, if_pos rfl, kn_next T x _ h.inv.klen e1 e2 d1 d2]
    rfl
  · rcases List.mem_append.1 ho with e | e
    · exact List.mem_append_left _ e
    · exact List.mem_append_right _ (List.mem_cons_of_mem _ e)
theorem MT.again {S T : Dq} {a b : List Ox} {x : Ox} (h : MT S T (a ++ x :: b)) (hw : isNew T x = true) : apE (apS T x) x = 0 ∧ isNew (apS T x) x = false ∧ apS (apS T x) x = apS T x := by
  have hx := h.right x (by simp)
  obtain ⟨d1, d2, _, _⟩ := dotE_iff.1 (opE_zero.1 hx).1
  refine ap_known hx ?_
  unfold apS
  rw [hw, if_pos rfl, kn_next T x _ h.inv.klen d1 d2 d1 d2, if_pos rfl]
  exact Int.le_refl _
theorem MT.all {S T : Dq} (I : Inv S) (h : MT S T []) : S.book = T.book ∧ S.marks = T.marks ∧ S.known = T.known := by
  have := h.perm
  rw [List.append_nil] at this
  exact meet I h.inv this.symm

/- a row of ops of the law's own -/
def RowL (B : Nat) (w : World) (v : Value) (L : List (Ox × Value)) : Prop := w.ownsRow B 35 6 v L.length (flatO L)
theorem RowL.six {B : Nat} {w : World} {g n c : Nat} {L : List (Ox × Value)} (h : RowL B w (.slice (some ⟨g, 0, none⟩) n c) L) {j : Nat} {y : Ox × Value} (hj : L[j]? = some y) : ∀ i u, (six y.1 y.2)[i]? = some u → w.cell? ⟨g, j * 6 + i, none⟩ = some u := by
  intro i u hu
  have hl : L.length = n := by
    rcases h.2 with ⟨e, _⟩ | ⟨g2, cap, cur, e, _⟩
    · cases e
    · injection e with _ e _; exact e.symm
  have h2 : w.ownsRow B 35 6 (.slice (some ⟨g, 0, none⟩) n c) n (flatO L) := by unfold RowL at h; rw [hl] at h; exact h
  have := h2.cells (g := g) rfl (j * 6 + i) u (flatO_at hj i u hu)
  rw [Addr.add_lit, Nat.zero_add] at this
  exact this
theorem RowL.cells {B : Nat} {w : World} {g n c : Nat} {L : List (Ox × Value)} (h : RowL B w (.slice (some ⟨g, 0, none⟩) n c) L) : ∀ j u, (flatO L)[j]? = some u → w.cell? ⟨g, j, none⟩ = some u := by
  intro j u hu
  have hl : L.length = n := by
    rcases h.2 with ⟨e, _⟩ | ⟨g2, cap, cur, e, _⟩
    · cases e
    · injection e with _ e _; exact e.symm
  have h2 : w.ownsRow B 35 6 (.slice (some ⟨g, 0, none⟩) n c) n (flatO L) := by unfold RowL at h; rw [hl] at h; exact h
  have := h2.cells (g := g) rfl j u hu
  rw [Addr.add_lit, Nat.zero_add] at this
  exact this
theorem RowL.shape {B : Nat} {w : World} {v : Value} {L : List (Ox × Value)} (h : RowL B w v L) : (v = .slice none 0 0 ∧ L = []) ∨ ∃ g c, v = .slice (some ⟨g, 0, none⟩) L.length c ∧ B ≤ g ∧ L.length ≤ c ∧ c ≤ maxLen := by
  rcases h.2 with ⟨e, e0⟩ | ⟨g, cap, cur, e, h1, _, h3, h4, _⟩
  · exact Or.inl ⟨e, List.eq_nil_of_length_eq_zero e0⟩
  · exact Or.inr ⟨g, cap, e, h1, h3, h4⟩
theorem flatO_one (L : List (Ox × Value)) (h : ∀ y ∈ L, ∃ p n c, y.2 = .slice p n c) : ∀ u ∈ flatO L, u.oneCell' = true := by
  intro u hu
  unfold flatO at hu
  obtain ⟨y, hy, hu⟩ := List.mem_flatMap.1 hu
  obtain ⟨p, n, c, e⟩ := h y hy
  simp only [six, List.mem_cons, List.not_mem_nil, or_false] at hu
  rcases hu with rfl | rfl | rfl | rfl | rfl | rfl
  · rfl
  · rfl
  · rfl
  · rfl
  · rfl
  · rw [e]; rfl
theorem flatO_take (L : List (Ox × Value)) (k : Nat) : ∀ (j : Nat) (u : Value), (flatO (L.take k))[j]? = some u → (flatO L)[j]? = some u := by
  intro j u hu
  have e : flatO L = flatO (L.take k) ++ flatO (L.drop k) := by rw [← flatO_append, List.take_append_drop]
  rw [e, List.getElem?_append_left (List.getElem?_eq_some_iff.1 hu).1]; exact hu
theorem flatO_drop (L : List (Ox × Value)) (k : Nat) (hk : k ≤ L.length) : ∀ (j : Nat) (u : Value), (flatO (L.drop k))[j]? = some u → (flatO L)[k * 6 + j]? = some u := by
  intro j u hu
  have e : flatO L = flatO (L.take k) ++ flatO (L.drop k) := by rw [← flatO_append, List.take_append_drop]
  have hl : (flatO (L.take k)).length = k * 6 := by rw [flatO_length, List.length_take]; omega
  rw [e, List.getElem?_append_right (by omega), hl, show k * 6 + j - k * 6 = j by omega]; exact hu

def slen : Value → Nat
  | .slice _ n _ => n
  | _ => 0
/- what an op that came in is good for: its dots lie below, its place is no longer than any text -/
def OkL (w : World) (L : List (Ox × Value)) : Prop := ∀ y ∈ L, DtsAt w y.2 y.1.2.2.2.2 ∧ y.1.2.2.1.size ≤ maxLen
theorem OkL.shape {w : World} {L : List (Ox × Value)} (h : OkL w L) : ∀ y ∈ L, ∃ p n c, y.2 = .slice p n c := fun y hy => by
  obtain ⟨p, c, e, _⟩ := (h y hy).1
  exact ⟨p, _, c, e⟩
/- the places of a list of numbers -/
def IntsAt (w : World) (v : Value) (l : List Int) : Prop := ∃ p c, v = .slice p l.length c ∧ Za.IntsIn w p l
/- dots that came in lie off a doc that lies above -/
theorem off_old {w : World} {v : Value} {l : List Dt} {F : Nat → Prop} (h : DtsAt w v l) (hF : ∀ g, F g → w.heap.size ≤ g) : In (fun g => ¬ F g) v := fun a n c e hn hf => by
  obtain ⟨q, c2, hv, hin, _⟩ := h
  rw [e] at hv
  injection hv with e1 e2 e3
  rcases hin with e0 | ⟨bb, oo, hp9, hcs⟩
  · rw [e0] at e2; simp at e2; omega
  · rw [hp9] at e1
    injection e1 with e1
    rw [e1] at hf
    have := hF _ hf
    have := (hcs 0 (by omega)).lt
    simp only at *
    omega
theorem six_laid (w : World) (a b t : Int) (p : ByteArray) (c : Int) (s : List Dt) (v : Value) (T : TypeId) : ∀ (j : Nat) (u : Value), (flatO [(((a, b), t, p, c, s), v)])[j]? = some u → (w.alloc (.cells #[.int .i64 a, .int .i64 b, .int .i64 t, .string p, .int .i64 c, v] T)).cell? ((⟨w.heap.size, 0, none⟩ : Addr).add j) = some u := by
  intro j u hu
  have e : flatO [(((a, b), t, p, c, s), v)] = [.int .i64 a, .int .i64 b, .int .i64 t, .string p, .int .i64 c, v] := rfl
  rw [e] at hu
  rw [Addr.add_lit, Nat.zero_add]
  exact blk_cell (heap_alloc_new w _) (by simpa using hu)

end Iq
end Go.Proofs.YtllcmfbkingfdaaGreat
