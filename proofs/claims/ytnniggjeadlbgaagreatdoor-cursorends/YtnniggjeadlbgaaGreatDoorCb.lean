/- The plain mathematics of cursors: by which place one is held, where it is, and what an insert does to it. -/
import Derived.Test.YtnniggjeadlbgaaGreatDoorCa
import Derived.Test.YtnniggjeadlbgaaGreatDoorUn
import Derived.Test.YtnniggjeadlbgaaGreatDoorIq
namespace Go.Proofs.YtnniggjeadlbgaaGreatDoor
namespace Cb
set_option linter.unusedVariables false
open Bm Ca Hm Om Um
open Lf (textR offR)
open Iq (run run_next)

theorem ahd_split {A B : List Leaf} {x : Leaf} (hr : Rise (A ++ x :: B)) : ahd (A ++ x :: B) x.1.toList = A.length := by
  obtain ⟨_, _, h3⟩ := List.pairwise_append.1 hr
  unfold ahd
  rw [List.takeWhile_append_of_pos (fun a ha => h3 a ha x (List.mem_cons_self ..)), List.takeWhile_cons_of_neg (by simp [less_irrefl])]
  simp
theorem off_split {A B : List Leaf} {x : Leaf} (h : bookE (A ++ x :: B) = 0) : x.1.size ≠ 0 ∧ x.1.size ≤ 12 ∧ withE (A ++ x :: B) x.1 = 0 ∧ offR (A ++ x :: B) x.1 = ((text A).length : Int) := by
  obtain ⟨_, h2, h3⟩ := bookE_zero.1 h
  have hc := (leafE_zero.1 (h2 x (by simp))).1
  have hl := chk_pos hc
  rw [ByteArray.toList_eq] at hl
  have e : withE (A ++ x :: B) x.1 = 0 := withE_zero.2 ⟨h, hc⟩
  refine ⟨fun e => ?_, by simpa using hl.2, e, ?_⟩
  · have := hl.1; simp at this; omega
  · unfold offR; rw [if_pos e, ahd_split h3, List.take_left' rfl]

/- a cursor that is at an offset -/
def Held (l : List Leaf) (f : Int) (p : ByteArray) : Prop := (p.size = 0 ∧ f = ((text l).length : Int)) ∨ ∃ A x B, l = A ++ x :: B ∧ isS x = true ∧ ((text A).length : Int) = f ∧ p = x.1
theorem anch_held {l : List Leaf} {f : Int} (h0 : bookE l = 0) (h : anchE l f = 0) : Held l f (anchR l f) := by
  unfold anchE at h
  rw [if_neg (by simpa using h0)] at h
  by_cases h1 : f < 0 ∨ ((text l).length : Int) < f
  · rw [if_pos h1] at h; omega
  · by_cases h2 : f < ((text l).length : Int)
    · obtain ⟨A, x, B, rfl, hx, hr⟩ := split_text l f.toNat (by omega)
      refine Or.inr ⟨A, x, B, rfl, hx, by omega, ?_⟩
      have := nth_at (B := B) hx A 0
      rw [hr, show ((f.toNat : Nat) : Int) = f by omega] at this
      unfold anchR
      rw [if_pos ⟨h0, by omega, h2⟩, this, List.getD_eq_getElem?_getD, List.getElem?_append_right (by simp)]
      simp
    · refine Or.inl ⟨?_, by omega⟩
      unfold anchR
      rw [if_neg (by omega)]; rfl
theorem held_res {l : List Leaf} {f : Int} {p : ByteArray} (h0 : bookE l = 0) (h : Held l f p) : p.size ≤ 12 ∧ resE l p = 0 ∧ resR l p = f := by
  rcases h with ⟨h1, h2⟩ | ⟨A, x, B, rfl, hx, hf, rfl⟩
  · refine ⟨by omega, ?_, ?_⟩
    · unfold resE; rw [if_pos h1]; exact h0
    · unfold resR; rw [if_pos h1, textR_size h0, h2]
  · obtain ⟨n, m, e1, e2⟩ := off_split h0
    refine ⟨m, ?_, ?_⟩
    · unfold resE; rw [if_neg n]; exact e1
    · unfold resR; rw [if_neg n, e2]; exact hf
theorem held_ins {A N B : List Leaf} {f : Int} {p : ByteArray} (h : Held (A ++ B) f p) : Held (A ++ N ++ B) (if ((text A).length : Int) ≤ f then f + (text N).length else f) p := by
  rcases h with ⟨h1, h2⟩ | ⟨C, x, D, e, hx, hf, rfl⟩
  · refine Or.inl ⟨h1, ?_⟩
    rw [text_append, List.length_append] at h2
    rw [if_pos (by omega), text_append, text_append, List.length_append, List.length_append]
    omega
  · rcases List.append_eq_append_iff.1 e with ⟨E, e1, e2⟩ | ⟨E, e1, e2⟩
    · subst e1
      rw [text_append, List.length_append] at hf
      refine Or.inr ⟨A ++ N ++ E, x, D, by rw [e2]; simp, hx, ?_, rfl⟩
      rw [if_pos (by omega), text_append, text_append, List.length_append, List.length_append]
      omega
    · cases E with
      | nil =>
        simp only [List.append_nil, List.nil_append] at e1 e2
        subst e1
        refine Or.inr ⟨A ++ N, x, D, by rw [← e2], hx, ?_, rfl⟩
        rw [if_pos (by omega), text_append, List.length_append]
        omega
      | cons y E =>
        rw [List.cons_append] at e2
        injection e2 with e3 e4
        subst e3
        refine Or.inr ⟨C, x, E ++ N ++ B, by rw [e1]; simp, hx, ?_, rfl⟩
        rw [if_neg (by rw [e1, text_append, text_cons, hx, if_pos rfl, List.length_append, List.length_cons]; omega)]
        exact hf

/- a doc of few ops is short -/
theorem ap_len {S : Dq} (I : Inv S) (o : Ox) : (apS S o).book.length ≤ S.book.length + 1 ∧ (apS S o).ops.length ≤ S.ops.length + 1 := by
  unfold apS
  cases hn : isNew S o with
  | false => simp
  | true =>
    obtain ⟨_, _, _, hd⟩ := isNew_iff.1 hn
    obtain ⟨_, _, hr⟩ := bookE_zero.1 I.book
    rw [if_pos rfl]
    refine ⟨?_, by unfold next; simp⟩
    show (doB S o).length ≤ _
    have put (p : ByteArray) (x : Leaf) : (putL S.book p x).length ≤ S.book.length + 1 := by rw [put_length hr]; split <;> omega
    unfold doE at hd
    unfold doB
    by_cases h1 : o.2.1 = 1
    · rw [if_pos h1] at hd ⊢; rw [(write_book hd).2]; exact put _ _
    · rw [if_neg h1] at hd ⊢
      by_cases h2 : o.2.1 = 2
      · rw [if_pos h2] at hd ⊢; rw [(strike_book hd).2]; exact put _ _
      · rw [if_neg h2]; omega
theorem run_len (l : List Ox) : ∀ k, k ≤ l.length → (run l k).book.length ≤ k ∧ (run l k).ops.length ≤ k
  | 0, _ => ⟨Nat.le_refl _, Nat.le_refl _⟩
  | k + 1, h => by
    obtain ⟨i1, i2⟩ := run_len l k (by omega)
    rw [run_next (by omega)]
    obtain ⟨a1, a2⟩ := ap_len (Iq.run_inv l k) (l.getD k oz)
    exact ⟨by omega, by omega⟩
theorem stays {S : Dq} {who off f : Int} {t p : ByteArray} (I : Inv S) (h : InsOk S who off t) (hl : S.book.length ≤ 60) (ho : S.ops.length ≤ 60) (hp : Held S.book f p) :
    runE S (insL S who off t) = 0 ∧ resE (runS S (insL S who off t)).book p = 0 ∧ resR (runS S (insL S who off t)).book p = if off ≤ f then f + t.size else f := by
  have h200 := h.few
  obtain ⟨h1, h2, _⟩ := ins_run I h (by omega) (by omega) t.size (Nat.le_refl _)
  have e : (insL S who off t).take t.size = insL S who off t := by rw [List.take_of_length_le]; rw [insL_len]; exact Nat.le_refl _
  rw [e] at h1 h2
  obtain ⟨c1, c2, _⟩ := cut_off (off_nat h)
  have hin : Held (S.book.take (nxt S.book off.toNat) ++ S.book.drop (nxt S.book off.toNat)) f p := by rw [List.take_append_drop]; exact hp
  have h3 := held_ins (N := news (leftP S.book off.toNat) (rightP S.book off.toNat) who t t.size) hin
  rw [← h2, (news_seen h.lets t.size (Nat.le_refl _)).1, ← seenP_len, c2] at h3
  obtain ⟨_, r1, r2⟩ := held_res (run_inv (insL S who off t) I).book h3
  refine ⟨h1, r1, ?_⟩
  rw [r2, List.length_take, len_eq, Nat.min_self, show ((off.toNat : Nat) : Int) = off by have := h.off0; omega]

/- from one cursor to another one -/
theorem ends {l : List Leaf} {f g : Int} {p q : ByteArray} (h0 : bookE l = 0) (hp : Held l f p) (hq : Held l g q) : rngE l p q = (if g < f then 3 else 0) ∧ (¬ g < f → rngR l p q = (textR l).extract f.toNat g.toNat) := by
  obtain ⟨_, p1, p2⟩ := held_res h0 hp
  obtain ⟨_, q1, q2⟩ := held_res h0 hq
  have e : rngE l p q = (if g < f then 3 else 0) := by unfold rngE; rw [if_neg (by simpa using p1), if_neg (by simpa using q1), p2, q2]
  refine ⟨e, fun h => ?_⟩
  unfold rngR
  rw [if_pos (by rw [e, if_neg h]), p2, q2]
theorem anchE_iff {l : List Leaf} {f : Int} (h0 : bookE l = 0) : anchE l f = if f < 0 ∨ ((textR l).size : Int) < f then 1 else 0 := by
  unfold anchE; rw [if_neg (by simpa using h0), textR_size h0]

end Cb
end Go.Proofs.YtnniggjeadlbgaaGreatDoor
