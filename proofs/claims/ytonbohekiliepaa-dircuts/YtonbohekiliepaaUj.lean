/- The plain mathematics of DirCuts: cut ahead of some letters. No program is named here. -/
import Derived.Test.YtonbohekiliepaaUn
import Derived.Test.YtonbohekiliepaaSm
namespace Go.Proofs.Ytonbohekiliepaa
namespace Um
set_option linter.unusedVariables false
open Cm Om Hm
open Op (bytesLess)
open Bm (Leaf none0)

theorem places_mem : ∀ {l : List Mk} {x : Mk}, x ∈ l → x.1 ∈ placesL l
  | [], x, h => by cases h
  | [m], x, h => by
    have : x = m := by simpa using h
    rw [this]; simp [placesL]
  | m :: y :: l, x, h => by
    rw [placesL]
    by_cases e : m.1.toList = y.1.toList
    · rw [if_pos e]
      rcases List.mem_cons.1 h with e1 | h
      · rw [e1, Bm.bytes_inj e]; exact places_mem (List.mem_cons_self ..)
      · exact places_mem h
    · rw [if_neg e]
      rcases List.mem_cons.1 h with e1 | h
      · rw [e1]; exact List.mem_cons_self ..
      · exact List.mem_cons_of_mem _ (places_mem h)
theorem places_nodup {m : List Mk} (h : marksE m = 0) : (placesL m).Nodup := by
  have := Sm.places_rise (marksE_zero.1 h).2.2
  exact this.imp fun {a b} hab e => by rw [e, Bm.less_irrefl] at hab; cases hab
def em : ByteArray := ⟨#[]⟩
def pl (j : Nat) : ByteArray := nthP em em 1 (j + 1)
structure CutSt (S : Dq) (t : ByteArray) (c : Nat) (acc : List Nat) : Prop where
  inv : Inv S
  book : S.book = news em em 1 t t.size
  what : ∀ o ∈ S.ops, o.2.1 = 1 ∨ o.2.1 = 3
  len : S.ops.length = t.size + c
  kn2 : kn S 2 = c
  ml : S.marks.length ≤ c
  mem : ∀ p, (∃ d, (p, d) ∈ S.marks) ↔ ∃ j ∈ acc, p = pl j
  nd : acc.Nodup
  lt : ∀ j ∈ acc, j < t.size
theorem left_zero : leftP d0.book (0 : Int).toNat = em := rfl
theorem right_zero : rightP d0.book (0 : Int).toNat = em := rfl
theorem start_ok {t : ByteArray} (h : InsOk d0 1 0 t) (hl : t.size ≤ 60) : runE d0 (insL d0 1 0 t) = 0 ∧ CutSt (runS d0 (insL d0 1 0 t)) t 0 [] := by
  obtain ⟨h1, h2, h3⟩ := ins_run inv_zero h (by show 0 + t.size ≤ 300; omega) (by show 0 + t.size ≤ 400; omega) t.size (Nat.le_refl _)
  have e : (insL d0 1 0 t).take t.size = insL d0 1 0 t := by rw [List.take_of_length_le]; rw [insL_len]; exact Nat.le_refl _
  rw [e] at h1 h2 h3
  obtain ⟨r1, r2⟩ := run_new (by decide) (by decide) _ inv_zero (insL_next d0 1 0 t) h1
  refine ⟨h1, ⟨run_inv _ inv_zero, ?_, fun o ho => ?_, ?_, ?_, ?_, fun p => ?_, List.nodup_nil, fun j hj => (by cases hj)⟩⟩
  · rw [h2, left_zero, right_zero]
    show [].take _ ++ news em em 1 t t.size ++ [].drop _ = _
    simp
  · rw [r1] at ho
    rcases List.mem_append.1 ho with ho | ho
    · cases ho
    · obtain ⟨k, _, rfl⟩ := insL_mem ho; exact Or.inl rfl
  · rw [r1, List.length_append, insL_len]; show 0 + t.size = _; omega
  · rw [r2 2 (by decide) (by decide), if_neg (by decide)]; rfl
  · rw [h3]; exact Nat.le_refl _
  · rw [h3]
    constructor
    · rintro ⟨d, hd⟩; cases hd
    · rintro ⟨j, hj, _⟩; cases hj
theorem cut_seen {S : Dq} {t : ByteArray} {c : Nat} {acc : List Nat} (h : CutSt S t c acc) (ho : okText t = true) : seenP S.book = (List.range t.size).map pl := by
  rw [h.book]; exact (news_seen ho t.size (Nat.le_refl _)).2
theorem cut_at {S : Dq} {t : ByteArray} {c : Nat} {acc : List Nat} (h : CutSt S t c acc) (ho : okText t = true) {a : Nat} (ha : a < t.size) : atP S a = pl a := by
  unfold atP
  rw [cut_seen h ho, Int.toNat_natCast, List.getD_eq_getElem?_getD, List.getElem?_map, List.getElem?_range ha]; rfl
theorem doE_c (T : Dq) (d : Dt) (p : ByteArray) (c : Int) (s : List Dt) : doE T (d, 3, p, c, s) = (if saw T.ops p d then 0 else withM T.marks (p, d)) := by unfold doE; simp
theorem doB_c (T : Dq) (d : Dt) (p : ByteArray) (c : Int) (s : List Dt) : doB T (d, 3, p, c, s) = T.book := by unfold doB; simp
theorem doM_c (T : Dq) (d : Dt) (p : ByteArray) (c : Int) (s : List Dt) : doM T (d, 3, p, c, s) = (if saw T.ops p d then T.marks else ins mlt T.marks (p, d)) := by unfold doM; simp
theorem next_book (S : Dq) (o : Ox) : (next S o).book = doB S o := rfl
theorem next_marks (S : Dq) (o : Ox) : (next S o).marks = doM S o := rfl
theorem cut_step {S : Dq} {t : ByteArray} {c : Nat} {acc : List Nat} (h : CutSt S t c acc) (hi : InsOk d0 1 0 t) (hl : t.size ≤ 60) (hc : c < 40) {a : Nat} (ha : a < t.size) :
    runE S (splL S 2 a) = 0 ∧ CutSt (runS S (splL S 2 a)) t (c + 1) (if a ∈ acc then acc else acc ++ [a]) := by
  have hat := cut_at h hi.lets ha
  have hk := h.kn2
  have hsaw : ∀ p d, saw S.ops p d = false := fun p d => by
    cases e : saw S.ops p d with
    | false => rfl
    | true =>
      obtain ⟨o, ho, h4, _⟩ := saw_iff.1 e
      rcases h.what o ho with q | q <;> omega
  have hrow : rowE em em 1 t.size = 0 := by have := hi.row; rwa [left_zero, right_zero] at this
  have hchk : Pm.chk (pl a).toList = 0 := (nth_chk hrow (k := a) ha).chk
  have hop : opE ((2, kn S 2 + 1), 3, pl a, 0, []) = 0 := by
    refine opE_zero.2 ⟨dotE_iff.2 ⟨by show (1 : Int) ≤ 2; decide, by show (2 : Int) ≤ 8; decide, ?_, ?_⟩, ⟨by show (1 : Int) ≤ 3; decide, by show (3 : Int) ≤ 4; decide⟩, hchk, lawOf_zero.2 ⟨fun e => absurd e (by show ¬ (3 : Int) = 1; decide), fun _ => rfl, fun _ => rfl, Nat.zero_le _, rfl⟩⟩
    · show 1 ≤ kn S 2 + 1; omega
    · show kn S 2 + 1 ≤ 9999; omega
  have hdo : doE S ((2, kn S 2 + 1), 3, pl a, 0, []) = 0 := by
    rw [doE_c, hsaw]
    show withM S.marks (pl a, (2, kn S 2 + 1)) = 0
    unfold withM
    have := h.ml
    split
    · rfl
    · rw [if_neg (by omega)]
  obtain ⟨e1, e2⟩ := ap_ok (S := S) hop rfl (by have := h.len; omega) hdo
  have e3 : runE S (splL S 2 a) = 0 := by
    unfold splL; rw [hat]
    simp only [runE, e1]; rfl
  have e4 : runS S (splL S 2 a) = next S ((2, kn S 2 + 1), 3, pl a, 0, []) := by
    unfold splL; rw [hat]
    simp only [runS, e1, e2]; rfl
  have hI := run_inv (splL S 2 a) h.inv
  refine ⟨e3, ?_⟩
  rw [e4] at hI ⊢
  refine ⟨hI, ?_, fun o ho => ?_, ?_, ?_, ?_, fun p => ?_, ?_, fun j hj => ?_⟩
  · rw [next_book, doB_c]; exact h.book
  · rcases List.mem_append.1 ho with ho | ho
    · exact h.what o ho
    · rw [List.mem_singleton.1 ho]; exact Or.inr rfl
  · show (S.ops ++ [_]).length = _
    rw [List.length_append, h.len]; simp; omega
  · rw [kn_next S _ 2 h.inv.klen (by decide) (by decide) (by show (1 : Int) ≤ 2; decide) (by show (2 : Int) ≤ 8; decide), if_pos rfl]
    show kn S 2 + 1 = _
    omega
  · rw [next_marks, doM_c, hsaw, if_neg (by simp), ins_length]
    have := h.ml
    split <;> omega
  · rw [next_marks, doM_c, hsaw, if_neg (by simp)]
    constructor
    · rintro ⟨d, hd⟩
      rcases (mem_ins _ _ _).1 hd with e | e
      · injection e with e _
        refine ⟨a, ?_, e⟩
        split
        · assumption
        · simp
      · obtain ⟨j, hj, e⟩ := (h.mem p).1 ⟨d, e⟩
        refine ⟨j, ?_, e⟩
        split
        · exact hj
        · exact List.mem_append_left _ hj
    · rintro ⟨j, hj, e⟩
      have hor : j ∈ acc ∨ j = a := by
        split at hj
        · exact Or.inl hj
        · rcases List.mem_append.1 hj with q | q
          · exact Or.inl q
          · exact Or.inr (List.mem_singleton.1 q)
      rcases hor with q | q
      · obtain ⟨d, hd⟩ := (h.mem p).2 ⟨j, q, e⟩
        exact ⟨d, (mem_ins _ _ _).2 (Or.inr hd)⟩
      · rw [e, q]; exact ⟨_, (mem_ins _ _ _).2 (Or.inl rfl)⟩
  · split
    · exact h.nd
    · rename_i hna
      rw [List.nodup_append]
      refine ⟨h.nd, by simp, fun x hx y hy => ?_⟩
      rw [List.mem_singleton.1 hy]
      intro e; rw [e] at hx; exact hna hx
  · split at hj
    · exact h.lt j hj
    · rcases List.mem_append.1 hj with q | q
      · exact h.lt j q
      · rw [List.mem_singleton.1 q]; exact ha
theorem pl_inj {t : ByteArray} (hrow : rowE em em 1 t.size = 0) {i j : Nat} (hi : i < t.size) (hj : j < t.size) (e : pl i = pl j) : i = j := by
  rcases Nat.lt_trichotomy i j with q | q | q
  · have := nth_rise hrow (j + 1) (by omega) (i + 1) (by omega)
    rw [show nthP em em 1 (i + 1) = nthP em em 1 (j + 1) from e, Bm.less_irrefl] at this; cases this
  · exact q
  · have := nth_rise hrow (i + 1) (by omega) (j + 1) (by omega)
    rw [show nthP em em 1 (j + 1) = nthP em em 1 (i + 1) from e.symm, Bm.less_irrefl] at this; cases this
theorem cut_heads {S : Dq} {t : ByteArray} {c : Nat} {acc : List Nat} (h : CutSt S t c acc) (hi : InsOk d0 1 0 t) : (Sm.heads S.marks).length = acc.length + 1 := by
  have hrow : rowE em em 1 t.size = 0 := by have := hi.row; rwa [left_zero, right_zero] at this
  have hp : (placesL S.marks).Perm (acc.map pl) := by
    refine (List.perm_ext_iff_of_nodup (places_nodup h.inv.marks) ?_).2 fun p => ?_
    · rw [List.nodup_iff_pairwise_ne, List.pairwise_map]
      exact (List.nodup_iff_pairwise_ne.1 h.nd).imp_of_mem fun {x y} hx hy hne e => hne (pl_inj hrow (h.lt x hx) (h.lt y hy) e)
    · rw [List.mem_map]
      constructor
      · intro hm
        obtain ⟨x, hx, e⟩ := Sm.mem_places hm
        obtain ⟨j, hj, e2⟩ := (h.mem p).1 ⟨x.2, by rw [← e]; exact hx⟩
        exact ⟨j, hj, e2.symm⟩
      · rintro ⟨j, hj, e⟩
        obtain ⟨d, hd⟩ := (h.mem p).2 ⟨j, hj, e.symm⟩
        exact places_mem hd
  unfold Sm.heads
  rw [List.length_cons, hp.length_eq, List.length_map]
theorem cut_text {S : Dq} {t : ByteArray} {c : Nat} {acc : List Nat} (h : CutSt S t c acc) (ho : okText t = true) : (⟨(Bm.text S.book).toArray⟩ : ByteArray) = t := by
  rw [h.book, (news_seen ho t.size (Nat.le_refl _)).1, List.take_of_length_le (by rw [len_eq]; exact Nat.le_refl _)]
  exact mk_toList t

end Um
end Go.Proofs.Ytonbohekiliepaa
