/- The plain mathematics of EditApart: two that write at once. No program is named here. -/
import Derived.Test.YtonbohekiliepaaUn
namespace Go.Proofs.Ytonbohekiliepaa
namespace Um
set_option linter.unusedVariables false
open Cm Om Hm
open Op (bytesLess)
open Bm (Leaf none0)

/- the letters of a text stand in a book, in their order -/
structure Stands (l : List Leaf) (L : List Ox) (t : ByteArray) : Prop where
  len : L.length = t.size
  at' : ∀ k, k < L.length → Bm.has l (L.getD k oz).2.2.1.toList = true ∧ Bm.ahd l (L.getD k oz).2.2.1.toList < l.length ∧ (l.getD (Bm.ahd l (L.getD k oz).2.2.1.toList) none0).2.1 = ((t.toList.getD k 0).toNat : Int) ∧ (l.getD (Bm.ahd l (L.getD k oz).2.2.1.toList) none0).2.2 = false
  up : ∀ k, k + 1 < L.length → Bm.ahd l (L.getD k oz).2.2.1.toList < Bm.ahd l (L.getD (k + 1) oz).2.2.1.toList
theorem has_parts {l : List Leaf} {p : List UInt8} (h : Bm.has l p = true) : Bm.ahd l p < l.length ∧ (l.getD (Bm.ahd l p) none0).1.toList = p := by
  unfold Bm.has at h
  rw [Bool.and_eq_true, decide_eq_true_eq, beq_iff_eq] at h
  exact h
theorem ahd_up {l : List Leaf} (hr : Bm.Rise l) {p q : List UInt8} (hp : Bm.has l p = true) (hq : Bm.has l q = true) (h : bytesLess p q = true) : Bm.ahd l p < Bm.ahd l q := by
  obtain ⟨p1, p2⟩ := has_parts hp
  obtain ⟨q1, q2⟩ := has_parts hq
  rcases Nat.lt_trichotomy (Bm.ahd l p) (Bm.ahd l q) with e | e | e
  · exact e
  · rw [e, q2] at p2
    rw [p2, Bm.less_irrefl] at h; cases h
  · have := Bm.rise_lt hr e p1
    rw [p2, q2] at this
    rw [Bm.less_asymm this] at h; cases h
theorem stands_of {S A : Dq} {who off : Int} {t : ByteArray} (I : Inv S) (J : Inv A) (h : InsOk S who off t) (hin : ∀ o ∈ insL S who off t, o ∈ A.ops) (hst : ∀ o ∈ A.ops, o.2.1 = 2 → o ∈ S.ops) : Stands A.book (insL S who off t) t := by
  obtain ⟨_, _, hr⟩ := Bm.bookE_zero.1 J.book
  obtain ⟨_, _, hrS⟩ := Bm.bookE_zero.1 I.book
  have key : ∀ k, k < t.size → Bm.has A.book (nthP (leftP S.book off.toNat) (rightP S.book off.toNat) who (k + 1)).toList = true ∧ (Bm.leafAt A.book (nthP (leftP S.book off.toNat) (rightP S.book off.toNat) who (k + 1))).2.1 = ((t.toList.getD k 0).toNat : Int) ∧ (Bm.leafAt A.book (nthP (leftP S.book off.toNat) (rightP S.book off.toNat) who (k + 1))).2.2 = false := by
    intro k hk
    obtain ⟨p, hp⟩ : ∃ p, p = nthP (leftP S.book off.toNat) (rightP S.book off.toNat) who (k + 1) := ⟨_, rfl⟩
    have hmem : insO (leftP S.book off.toNat) (rightP S.book off.toNat) who (kn S who) t k ∈ A.ops := hin _ (by unfold insL; exact List.mem_map.2 ⟨k, List.mem_range.2 hk, rfl⟩)
    have hw := J.wr _ hmem rfl
    have hfr := ins_fresh I.book h hk
    have hl := let_at h.lets hk
    unfold insO at hw
    simp only at hw
    rw [← hp] at hw hfr ⊢
    have hh : Bm.has A.book p.toList = true := by
      cases e : Bm.has A.book p.toList with
      | true => rfl
      | false =>
        have : Bm.leafAt A.book p = (p, 0, false) := by unfold Bm.leafAt; rw [e]; rfl
        rw [this] at hw
        exact absurd hw.symm (Bm.isL_ne hl).1
    refine ⟨hh, hw, ?_⟩
    cases e : (Bm.leafAt A.book p).2.2 with
    | false => rfl
    | true =>
      obtain ⟨o, ho, h2, h3⟩ := J.st' p e
      have := I.st o (hst o ho h2) h2
      rw [h3] at this
      have h9 : Bm.leafAt S.book p = (p, 0, false) := by unfold Bm.leafAt; rw [hfr.2]; rfl
      rw [h9] at this; cases this
  have hlA : ∀ p : ByteArray, Bm.has A.book p.toList = true → Bm.leafAt A.book p = A.book.getD (Bm.ahd A.book p.toList) none0 := fun p hp => by unfold Bm.leafAt; rw [hp, if_pos rfl]
  refine ⟨insL_len S who off t, fun k hk => ?_, fun k hk => ?_⟩
  · rw [insL_len] at hk
    rw [insL_at hk]
    obtain ⟨k1, k2, k3⟩ := key k hk
    rw [hlA _ k1] at k2 k3
    exact ⟨k1, (has_parts k1).1, k2, k3⟩
  · rw [insL_len] at hk
    rw [insL_at (show k < t.size by omega), insL_at hk]
    exact ahd_up hr (key k (by omega)).1 (key (k + 1) hk).1 (nth_rise h.row (k + 2) (by omega) (k + 1) (by omega))
theorem insL_what {S : Dq} {who off : Int} {t : ByteArray} {o : Ox} (h : o ∈ insL S who off t) : o.2.1 = 1 := by
  obtain ⟨k, _, rfl⟩ := insL_mem h; rfl
theorem apart {S : Dq} {who at_ other to : Int} {t word : ByteArray} (I : Inv S) (hx : InsOk S who at_ t) (hy : InsOk S other to word) (hne : who ≠ other)
    (h1 : runE S (insL S who at_ t) = 0) (h2 : runE S (insL S other to word) = 0) (h3 : runE (runS S (insL S who at_ t)) (insL S other to word) = 0) (h4 : runE (runS S (insL S other to word)) (insL S who at_ t) = 0) :
    (runS (runS S (insL S who at_ t)) (insL S other to word)).book = (runS (runS S (insL S other to word)) (insL S who at_ t)).book ∧
    Stands (runS (runS S (insL S who at_ t)) (insL S other to word)).book (insL S who at_ t) t ∧ Stands (runS (runS S (insL S who at_ t)) (insL S other to word)).book (insL S other to word) word := by
  obtain ⟨a1, a2⟩ := run_new hx.who1 hx.who8 _ I (insL_next S who at_ t) h1
  obtain ⟨b1, b2⟩ := run_new hy.who1 hy.who8 _ I (insL_next S other to word) h2
  have IA := run_inv (insL S who at_ t) I
  have IB := run_inv (insL S other to word) I
  obtain ⟨c1, _⟩ := run_new hy.who1 hy.who8 (insL S other to word) IA (by rw [a2 other hy.who1 hy.who8, if_neg (fun e => hne e.symm)]; exact insL_next S other to word) h3
  obtain ⟨d1, _⟩ := run_new hx.who1 hx.who8 (insL S who at_ t) IB (by rw [b2 who hx.who1 hx.who8, if_neg hne]; exact insL_next S who at_ t) h4
  have JA := run_inv (insL S other to word) IA
  have JB := run_inv (insL S who at_ t) IB
  rw [a1] at c1
  rw [b1] at d1
  have hst : ∀ o ∈ (runS (runS S (insL S who at_ t)) (insL S other to word)).ops, o.2.1 = 2 → o ∈ S.ops := by
    intro o ho h9
    rw [c1] at ho
    rcases List.mem_append.1 ho with ho | ho
    · rcases List.mem_append.1 ho with ho | ho
      · exact ho
      · rw [insL_what ho] at h9; cases h9
    · rw [insL_what ho] at h9; cases h9
  refine ⟨(meet JA JB ?_).1, stands_of I JA hx (fun o ho => ?_) hst, stands_of I JA hy (fun o ho => ?_) hst⟩
  · rw [c1, d1, List.append_assoc, List.append_assoc]
    exact List.Perm.append_left _ List.perm_append_comm
  · rw [c1]; exact List.mem_append_left _ (List.mem_append_right _ ho)
  · rw [c1]; exact List.mem_append_right _ ho

end Um
end Go.Proofs.Ytonbohekiliepaa
