/- A log's bytes: plain mathematics (the records of its ops, one behind the other, and of one more a part). No program is named here. -/
import Derived.Test.YtgefpcchcegcpaaGreatDoorTg
namespace Go.Proofs.YtgefpcchcegcpaaGreatDoor
namespace Tp
set_option linter.unusedVariables false
open Hm Om Tg

def recB (o : Ox) : List UInt8 := b2 (bytesB o).length ++ bytesB o
theorem recB_len (o : Ox) : (recB o).length = 2 + (bytesB o).length := by unfold recB; rw [List.length_append, b2_len]
theorem each_cons (o : Ox) (l : List Ox) : eachB (o :: l) = recB o ++ eachB l := eachB_cons o l
theorem each_snoc (l : List Ox) (o : Ox) : eachB (l ++ [o]) = eachB l ++ recB o := by
  rw [eachB_append, each_cons]; show _ ++ (recB o ++ []) = _; rw [List.append_nil]
theorem rec_le {o : Ox} (h : opE o = 0) : 8 ≤ (recB o).length ∧ (recB o).length ≤ 142 := by
  have := bytes_le h; rw [recB_len]; omega
/- where each record ends -/
def endsB : Nat → List Ox → List Nat
  | _, [] => []
  | a, o :: l => (a + (recB o).length) :: endsB (a + (recB o).length) l
theorem ends_last : ∀ (l : List Ox) (a : Nat), (endsB a l).getLastD a = a + (eachB l).length
  | [], a => rfl
  | o :: l, a => by
    show ((a + (recB o).length) :: endsB (a + (recB o).length) l).getLastD a = _
    rw [List.getLastD_cons, ends_last l, each_cons, List.length_append]; omega
theorem ends_snoc : ∀ (l : List Ox) (a : Nat) (o : Ox), endsB a (l ++ [o]) = endsB a l ++ [a + (eachB l).length + (recB o).length]
  | [], a, o => by show [a + (recB o).length] = [a + 0 + (recB o).length]; rw [Nat.add_zero]
  | x :: l, a, o => by
    show (a + (recB x).length) :: endsB (a + (recB x).length) (l ++ [o]) = (a + (recB x).length) :: (endsB (a + (recB x).length) l ++ _)
    rw [ends_snoc l, each_cons, List.length_append, show a + (recB x).length + (eachB l).length + (recB o).length = a + ((recB x).length + (eachB l).length) + (recB o).length by omega]
theorem ends_take : ∀ (l : List Ox) (a k : Nat), (endsB a l).take k = endsB a (l.take k)
  | [], a, k => by rw [List.take_nil]; exact List.take_nil
  | o :: l, a, 0 => rfl
  | o :: l, a, k + 1 => by
    show ((a + (recB o).length) :: endsB (a + (recB o).length) l).take (k + 1) = (a + (recB o).length) :: endsB (a + (recB o).length) (l.take k)
    rw [List.take_succ_cons, ends_take l]
/- what is left of the bytes: whole records, and of one more a part -/
theorem cut_take : ∀ (l : List Ox) (a h : Nat) (o : Ox) (k : Nat), (∀ x ∈ l, opE x = 0) → opE o = 0 → k < (recB o).length →
    ∃ o' k', (eachB l ++ (recB o).take k).take h = eachB (l.take ((endsB a l).takeWhile fun e => decide (e ≤ a + h)).length) ++ (recB o').take k' ∧ opE o' = 0 ∧ k' < (recB o').length
  | [], a, h, o, k, _, ho, hk => ⟨o, min h k, by
      show ([] ++ (recB o).take k).take h = [] ++ (recB o).take (min h k)
      rw [List.nil_append, List.nil_append, List.take_take], ho, by omega⟩
  | x :: l, a, h, o, k, hl, ho, hk => by
    have hx := hl x List.mem_cons_self
    by_cases hh : (recB x).length ≤ h
    · obtain ⟨o', k', h1, h2, h3⟩ := cut_take l (a + (recB x).length) (h - (recB x).length) o k (fun y hy => hl y (List.mem_cons_of_mem _ hy)) ho hk
      rw [show a + (recB x).length + (h - (recB x).length) = a + h by omega] at h1
      refine ⟨o', k', ?_, h2, h3⟩
      show _ = eachB ((x :: l).take (((a + (recB x).length) :: endsB (a + (recB x).length) l).takeWhile fun e => decide (e ≤ a + h)).length) ++ _
      rw [List.takeWhile_cons_of_pos (by rw [decide_eq_true_eq]; omega), List.length_cons, List.take_succ_cons, each_cons, each_cons, List.append_assoc, List.append_assoc, List.take_append, List.take_of_length_le hh, h1]
    · refine ⟨x, h, ?_, hx, by omega⟩
      show _ = eachB ((x :: l).take (((a + (recB x).length) :: endsB (a + (recB x).length) l).takeWhile fun e => decide (e ≤ a + h)).length) ++ _
      rw [List.takeWhile_cons_of_neg (by rw [decide_eq_true_eq]; omega)]
      show _ = [] ++ _
      rw [each_cons, List.append_assoc, List.take_append_of_le_length (by omega), List.nil_append]

/- a log's bytes -/
structure Bs (s : Lg) (bs : List UInt8) : Prop where
  ends : s.ends = endsB 0 s.ops
  part : ∃ o k, opE o = 0 ∧ k < (recB o).length ∧ bs = eachB s.ops ++ (recB o).take k
  len : bs.length = s.bytes
theorem news_right : ∀ {l : List Ox} {S : Dq}, News S l → ∀ o ∈ l, opE o = 0
  | [], S, _, o, ho => by cases ho
  | x :: l, S, h, o, ho => by
    rcases List.mem_cons.1 ho with e | e
    · rw [e]; exact (isNew_iff.1 h.1).1
    · exact news_right h.2 o e
theorem Bs.top {s : Lg} {bs : List UInt8} (h : Bs s bs) : Tg.top s = (eachB s.ops).length := by
  unfold Tg.top; rw [h.ends, ends_last, Nat.zero_add]
theorem Bs.whole {s : Lg} {bs : List UInt8} (h : Bs s bs) (ok : Ok s) (hs : s.stopped = false) : bs = eachB s.ops := by
  obtain ⟨o, k, h1, h2, h3⟩ := h.part
  have e := ok.go hs
  rw [h.top, ← h.len, h3, List.length_append, List.length_take] at e
  have : k = 0 := by omega
  rw [h3, this, List.take_zero, List.append_nil]
theorem stk_right : opE (stk 0) = 0 := by kernel_rfl
theorem Bs.new : Bs Tg.new [] := ⟨rfl, ⟨stk 0, 0, stk_right, by have := rec_le stk_right; omega, rfl⟩, rfl⟩
/- a record more -/
theorem Bs.put {s : Lg} {bs : List UInt8} {o : Ox} (h : Bs s bs) (ok : Ok s) (hs : s.stopped = false) (hn : isNew (Tg.doc s) o = true) (hf : ¬ s.fail = some 0) : Bs (putS s o (recB o).length) (bs ++ recB o) := by
  have hw := h.whole ok hs
  have ho := (isNew_iff.1 hn).1
  unfold putS
  rw [hs, if_neg (by decide), hn, if_pos rfl, if_neg hf]
  refine ⟨?_, ⟨o, 0, ho, by have := rec_le ho; omega, ?_⟩, ?_⟩
  · show s.ends ++ [s.bytes + (recB o).length] = endsB 0 (s.ops ++ [o])
    rw [ends_snoc, h.ends, Nat.zero_add, ← h.len, hw]
  · show bs ++ recB o = eachB (s.ops ++ [o]) ++ _
    rw [each_snoc, List.take_zero, List.append_nil, hw]
  · show (bs ++ recB o).length = s.bytes + (recB o).length
    rw [List.length_append, h.len]
/- half a record, where it stops -/
theorem Bs.half {s : Lg} {bs : List UInt8} {o : Ox} (h : Bs s bs) (ok : Ok s) (hs : s.stopped = false) (hn : isNew (Tg.doc s) o = true) (hf : s.fail = some 0) : Bs (putS s o (recB o).length) (bs ++ (recB o).take ((recB o).length / 2)) := by
  have hw := h.whole ok hs
  have ho := (isNew_iff.1 hn).1
  have hr := rec_le ho
  unfold putS
  rw [hs, if_neg (by decide), hn, if_pos rfl, if_pos hf]
  refine ⟨h.ends, ⟨o, (recB o).length / 2, ho, by omega, by rw [hw]⟩, ?_⟩
  show (bs ++ (recB o).take ((recB o).length / 2)).length = s.bytes + (recB o).length / 2
  rw [List.length_append, h.len, List.length_take]; omega
theorem Bs.same {s s' : Lg} {bs : List UInt8} (h : Bs s bs) (h1 : s'.ops = s.ops) (h2 : s'.ends = s.ends) (h3 : s'.bytes = s.bytes) : Bs s' bs := by
  refine ⟨by rw [h1, h2]; exact h.ends, ?_, by rw [h3]; exact h.len⟩
  rw [h1]; exact h.part
theorem sync_same (s : Lg) : (syncS s).ops = s.ops ∧ (syncS s).ends = s.ends ∧ (syncS s).bytes = s.bytes := by
  unfold syncS
  split
  · exact ⟨rfl, rfl, rfl⟩
  · split <;> exact ⟨rfl, rfl, rfl⟩
/- what a crash reads -/
theorem Bs.left {s : Lg} {bs : List UInt8} (h : Bs s bs) (ok : Ok s) (keep : Int) : ∃ o k, opE o = 0 ∧ k < (recB o).length ∧ bs.take (high s keep) = eachB (s.ops.take (leftN s keep)) ++ (recB o).take k := by
  obtain ⟨o, k, h1, h2, h3⟩ := h.part
  obtain ⟨o', k', q1, q2, q3⟩ := cut_take s.ops 0 (high s keep) o k (news_right ok.news) h1 h2
  refine ⟨o', k', q2, q3, ?_⟩
  rw [h3, q1]
  unfold leftN
  rw [h.ends]
  simp only [Nat.zero_add]
theorem high_le {s : Lg} (ok : Ok s) (keep : Int) : high s keep ≤ s.bytes := by
  have := ok.safe
  unfold high
  split <;> omega
/- ops that are all new, put into a new log -/
def ran (l : List Ox) : Lg := ⟨l, endsB 0 l, (eachB l).length, 0, none, false⟩
theorem ran_new : ran [] = Tg.new := rfl
theorem ran_put {l : List Ox} {o : Ox} (hn : isNew (st l) o = true) : putS (ran l) o (recB o).length = ran (l ++ [o]) := by
  unfold putS
  show (if false = true then _ else if isNew (st l) o = true then _ else _) = _
  rw [if_neg (by decide), hn, if_pos rfl]
  show (if (none : Option Nat) = some 0 then _ else _) = _
  rw [if_neg (by intro e; cases e)]
  unfold ran
  rw [ends_snoc, each_snoc, List.length_append, Nat.zero_add]
  rfl
theorem news_at : ∀ {l : List Ox} {S : Dq}, News S l → ∀ i (h : i < l.length), isNew ((l.take i).foldl apS S) (l[i]) = true
  | x :: l, S, h, 0, hi => h.1
  | x :: l, S, h, i + 1, hi => by
    show isNew ((l.take i).foldl apS (apS S x)) (l[i]'(by simpa using hi)) = true
    exact news_at h.2 i (by simpa using hi)
theorem ran_step {l : List Ox} (h : News d0 l) {i : Nat} (hi : i < l.length) : putS (ran (l.take i)) l[i] (recB l[i]).length = ran (l.take (i + 1)) := by
  rw [ran_put (news_at h i hi), List.take_succ_eq_append_getElem hi]
theorem ran_sync (l : List Ox) : syncS (ran l) = ⟨l, endsB 0 l, (eachB l).length, (eachB l).length, none, false⟩ := rfl
theorem ran_end {s : Lg} {bs : List UInt8} (h : Bs s bs) (keep : Int) : syncS (ran (s.ops.take (leftN s keep))) = crashS s keep := by
  rw [ran_sync]
  unfold crashS cut
  rw [h.ends, ends_take, ends_last, Nat.zero_add]
theorem each_le : ∀ {l : List Ox}, (∀ o ∈ l, opE o = 0) → (eachB l).length ≤ 142 * l.length
  | [], _ => Nat.le_refl _
  | x :: l, h => by
    rw [each_cons, List.length_append, List.length_cons]
    have h1 := (rec_le (h x List.mem_cons_self)).2
    have h2 := each_le (fun o ho => h o (List.mem_cons_of_mem _ ho))
    omega

end Tp
end Go.Proofs.YtgefpcchcegcpaaGreatDoor
