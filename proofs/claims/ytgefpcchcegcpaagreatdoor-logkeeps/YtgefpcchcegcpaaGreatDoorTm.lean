/- LogKeeps' mathematics: how it opens; which records are whole; what a Put that did nothing leaves. -/
import Derived.Test.YtgefpcchcegcpaaGreatDoorTh
namespace Go.Proofs.YtgefpcchcegcpaaGreatDoor
namespace Tm
set_option linter.unusedVariables false
open Hm Om Iq Tg Th

theorem mark_iff {h : Nat} : ∀ {l : List Nat} {a : Nat}, Rise a l → a ≤ h → ∀ i, i ≤ l.length → ((a :: l).getD i 0 ≤ h ↔ i ≤ (l.takeWhile fun e => decide (e ≤ h)).length)
  | l, a, hr, ha, 0, _ => ⟨fun _ => Nat.zero_le _, fun _ => ha⟩
  | [], a, hr, ha, i + 1, hi => by simp at hi
  | e :: l, a, hr, ha, i + 1, hi => by
    have e1 : (a :: e :: l).getD (i + 1) 0 = (e :: l).getD i 0 := rfl
    rw [e1]
    by_cases he : e ≤ h
    · have ih := mark_iff hr.2 he i (by simpa using hi)
      rw [ih, List.takeWhile_cons_of_pos (by simpa using he), List.length_cons]
      omega
    · rw [List.takeWhile_cons_of_neg (by simpa using he)]
      have hge : ∀ {l : List Nat} {e : Nat}, Rise e l → ∀ i, i ≤ l.length → e ≤ (e :: l).getD i 0 := by
        intro l
        induction l with
        | nil =>
          intro e _ i hi
          cases i with
          | zero => exact Nat.le_refl _
          | succ i => simp at hi
        | cons x l ih =>
          intro e hr i hi
          cases i with
          | zero => exact Nat.le_refl _
          | succ i =>
            have h1 := ih hr.2 i (by simpa using hi)
            have h2 := hr.1
            show e ≤ (x :: l).getD i 0
            omega
      have h9 := hge hr.2 i (by simpa using hi)
      constructor
      · intro h8; omega
      · intro h8; simp at h8
theorem left_iff {s : Lg} (h : Ok s) (keep : Int) {i : Nat} (hi : i ≤ s.ends.length) : (0 :: s.ends).getD i 0 ≤ high s keep ↔ i ≤ leftN s keep := mark_iff h.rise (Nat.zero_le _) i hi
/- what the law calls high -/
theorem high_none {s : Lg} {keep : Int} (h : ¬ 0 < keep) : high s keep = s.safe := by unfold high; rw [if_neg h]
theorem high_part {s : Lg} (ho : Ok s) {keep : Int} (h : 0 < keep) (h2 : keep < (s.bytes : Int) - s.safe) : (high s keep : Int) = (s.safe : Int) + keep := by
  unfold high; rw [if_pos h]; omega
theorem high_all {s : Lg} (ho : Ok s) {keep : Int} (h : 0 < keep) (h2 : ¬ keep < (s.bytes : Int) - s.safe) : high s keep = s.bytes := by
  have := ho.safe
  unfold high; rw [if_pos h]; omega
/- behind a crash -/
theorem crash_at {s : Lg} (h : Ok s) (keep : Int) : (crashS s keep).ops = s.ops.take (leftN s keep) ∧ (crashS s keep).ends = s.ends.take (leftN s keep) ∧ (crashS s keep).bytes = (0 :: s.ends).getD (leftN s keep) 0 ∧ (crashS s keep).safe = (0 :: s.ends).getD (leftN s keep) 0 := by
  have key : ∀ (l : List Nat) (a k : Nat), k ≤ l.length → (l.take k).getLastD a = (a :: l).getD k 0 := by
    intro l
    induction l with
    | nil =>
      intro a k hk
      have hk0 : k = 0 := Nat.le_zero.1 hk
      rw [hk0]; rfl
    | cons x l ih =>
      intro a k hk
      cases k with
      | zero => rfl
      | succ k =>
        rw [List.take_succ_cons, List.getLastD_cons, ih x k (by simpa using hk)]
        rfl
  have h1 := key s.ends 0 (leftN s keep) (left_le s keep)
  exact ⟨rfl, rfl, h1, h1⟩
/- Put, against the doc alone -/
theorem put_told {s : Lg} {o : Ox} (h : putE s o ≠ 6) : putE s o = apE (Tg.doc s) o ∧ putN s o = isNew (Tg.doc s) o := by
  unfold putE putN at *
  cases hs : s.stopped with
  | true => rw [hs] at h; exact absurd rfl h
  | false =>
    rw [hs] at h
    cases hn : isNew (Tg.doc s) o with
    | true =>
      rw [hn] at h
      by_cases hf : s.fail = some 0
      · rw [hf] at h; exact absurd rfl h
      · rw [if_neg (by decide), if_pos rfl, if_neg hf, new_zero hn, decide_eq_false hf]; exact ⟨rfl, rfl⟩
    | false => rw [if_neg (by decide), if_neg (by decide)]; exact ⟨rfl, rfl⟩
theorem put_yes {s : Lg} {o : Ox} (h : putN s o = true) (r : Nat) : putE s o = 0 ∧ isNew (Tg.doc s) o = true ∧ (putS s o r).ops = s.ops ++ [o] ∧ (putS s o r).ends = s.ends ++ [s.bytes + r] ∧ (putS s o r).bytes = s.bytes + r := by
  unfold putN at h
  cases hs : s.stopped with
  | true => rw [hs] at h; cases h
  | false =>
    cases hn : isNew (Tg.doc s) o with
    | false => rw [hn] at h; simp at h
    | true =>
      rw [hs, hn] at h
      have hf : ¬ s.fail = some 0 := by simpa using h
      refine ⟨?_, rfl, ?_, ?_, ?_⟩
      · unfold putE; rw [hs, if_neg (by decide), hn, if_pos rfl, if_neg hf]
      all_goals (unfold putS; rw [hs, if_neg (by decide), hn, if_pos rfl, if_neg hf])
theorem put_no {s : Lg} {o : Ox} (h : putN s o = false) (r : Nat) : (putS s o r).ops = s.ops ∧ (putS s o r).ends = s.ends ∧ (putS s o r).bytes ≤ s.bytes + r := by
  unfold putN at h
  unfold putS
  cases hs : s.stopped with
  | true => rw [if_pos rfl]; exact ⟨rfl, rfl, Nat.le_add_right _ _⟩
  | false =>
    rw [if_neg (by decide)]
    cases hn : isNew (Tg.doc s) o with
    | false => rw [if_neg (by decide)]; exact ⟨rfl, rfl, Nat.le_add_right _ _⟩
    | true =>
      rw [hs, hn] at h
      have hf : s.fail = some 0 := by simpa using h
      rw [if_pos rfl, if_pos hf]
      exact ⟨rfl, rfl, by show s.bytes + r / 2 ≤ _; omega⟩
theorem sync_same (s : Lg) : (syncS s).ops = s.ops ∧ (syncS s).ends = s.ends ∧ (syncS s).bytes = s.bytes ∧ (syncE s = 0 → (syncS s).safe = (syncS s).bytes) := by
  unfold syncS syncE
  cases hs : s.stopped with
  | true => exact ⟨rfl, rfl, rfl, fun e => by cases e⟩
  | false =>
    by_cases hf : s.fail = some 0
    · simp only [hf, if_true]
      exact ⟨rfl, rfl, rfl, fun e => by cases e⟩
    · simp only [hf, if_false]
      exact ⟨rfl, rfl, rfl, fun _ => rfl⟩

/- how it opens: one letter is safe, the other one is lost -/
def a1 : Ox := ((1, 1), 1, ⟨#[110, 98]⟩, 104, [])
def a2 : Ox := ((1, 2), 1, ⟨#[111, 98]⟩, 104, [])
theorem new1 : isNew d0 a1 = true := by kernel_rfl
theorem new2 : isNew (apS d0 a1) a2 = true := by kernel_rfl
theorem text1 : Lf.textR (apS d0 a1).book = ⟨#[104]⟩ := by kernel_rfl
theorem open1 (r : Nat) : putN Tg.new a1 = true ∧ putE Tg.new a1 = 0 ∧ putS Tg.new a1 r = ⟨[a1], [r], r, 0, none, false⟩ := by
  have hn : isNew (Tg.doc Tg.new) a1 = true := new1
  refine ⟨?_, ?_, ?_⟩
  · unfold putN; rw [hn]; rfl
  · unfold putE; rw [show Tg.new.stopped = false from rfl, if_neg (by decide), hn]; rfl
  · unfold putS; rw [show Tg.new.stopped = false from rfl, if_neg (by decide), hn, if_pos rfl, if_neg (by intro e; cases e)]
    show (⟨[] ++ [a1], [] ++ [0 + r], 0 + r, 0, none, false⟩ : Lg) = _
    rw [Nat.zero_add]; rfl
theorem open2 (r : Nat) : syncE ⟨[a1], [r], r, 0, none, false⟩ = 0 ∧ syncS ⟨[a1], [r], r, 0, none, false⟩ = ⟨[a1], [r], r, r, none, false⟩ := ⟨rfl, rfl⟩
theorem open3 (r q : Nat) : putE ⟨[a1], [r], r, r, none, false⟩ a2 = 0 ∧ putS ⟨[a1], [r], r, r, none, false⟩ a2 q = ⟨[a1, a2], [r, r + q], r + q, r, none, false⟩ := by
  have hn : isNew (Tg.doc ⟨[a1], [r], r, r, none, false⟩) a2 = true := new2
  refine ⟨?_, ?_⟩
  · unfold putE; rw [if_neg (fun e => by cases e), hn]; rfl
  · unfold putS; rw [if_neg (fun e => by cases e), hn, if_pos rfl, if_neg (by intro e; cases e)]; rfl
theorem open4 (r q : Nat) (hq : 2 ≤ q) : crashS ⟨[a1, a2], [r, r + q], r + q, r, none, false⟩ 0 = ⟨[a1], [r], r, r, none, false⟩ := by
  have hl : leftN ⟨[a1, a2], [r, r + q], r + q, r, none, false⟩ 0 = 1 := by
    unfold leftN
    rw [show high ⟨[a1, a2], [r, r + q], r + q, r, none, false⟩ 0 = r from rfl]
    show (List.takeWhile (fun e => decide (e ≤ r)) [r, r + q]).length = 1
    rw [List.takeWhile_cons_of_pos (by simp), List.takeWhile_cons_of_neg (by simp; omega)]; rfl
  unfold crashS; rw [hl]; rfl
theorem open5 (r : Nat) : Lf.textR (Tg.doc ⟨[a1], [r], r, r, none, false⟩).book = ⟨#[104]⟩ := text1

end Tm
end Go.Proofs.YtgefpcchcegcpaaGreatDoor
