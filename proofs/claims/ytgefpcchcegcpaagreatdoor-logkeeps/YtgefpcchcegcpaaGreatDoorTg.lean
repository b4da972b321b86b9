/- Logs: plain mathematics (which ops are there, as how many bytes, what is safe, when it stops). No program is named here. -/
import Derived.Test.YtgefpcchcegcpaaGreatDoorIq
namespace Go.Proofs.YtgefpcchcegcpaaGreatDoor
namespace Tg
set_option linter.unusedVariables false
open Hm Om Iq

structure Lg where
  ops : List Ox
  ends : List Nat
  bytes : Nat
  safe : Nat
  fail : Option Nat
  stopped : Bool
def st (l : List Ox) : Dq := l.foldl apS d0
def doc (s : Lg) : Dq := st s.ops
def new : Lg := ⟨[], [], 0, 0, none, false⟩
def top (s : Lg) : Nat := s.ends.getLastD 0
def less (f : Option Nat) : Option Nat := f.map (· - 1)
def putE (s : Lg) (o : Ox) : Int := if s.stopped then 6 else if isNew (doc s) o then (if s.fail = some 0 then 6 else 0) else apE (doc s) o
def putN (s : Lg) (o : Ox) : Bool := !s.stopped && (isNew (doc s) o && !decide (s.fail = some 0))
def putS (s : Lg) (o : Ox) (r : Nat) : Lg := if s.stopped then s else if isNew (doc s) o then (if s.fail = some 0 then { s with bytes := s.bytes + r / 2, stopped := true } else { s with ops := s.ops ++ [o], ends := s.ends ++ [s.bytes + r], bytes := s.bytes + r, fail := less s.fail }) else s
def syncE (s : Lg) : Int := if s.stopped then 6 else if s.fail = some 0 then 6 else 0
def syncS (s : Lg) : Lg := if s.stopped then s else if s.fail = some 0 then { s with stopped := true } else { s with safe := s.bytes, fail := less s.fail }
def failS (s : Lg) (n : Int) : Lg := { s with fail := if n < 0 then none else some n.toNat }
def high (s : Lg) (keep : Int) : Nat := if 0 < keep then min s.bytes (s.safe + keep.toNat) else s.safe
def leftN (s : Lg) (keep : Int) : Nat := (s.ends.takeWhile fun e => decide (e ≤ high s keep)).length
def cut (s : Lg) (k : Nat) : Lg := ⟨s.ops.take k, s.ends.take k, (s.ends.take k).getLastD 0, (s.ends.take k).getLastD 0, none, false⟩
def crashS (s : Lg) (keep : Int) : Lg := cut s (leftN s keep)

/- each record has at least two bytes; the ops were all new -/
def Rise : Nat → List Nat → Prop
  | _, [] => True
  | a, e :: l => a + 2 ≤ e ∧ Rise e l
def News : Dq → List Ox → Prop
  | _, [] => True
  | S, o :: l => isNew S o = true ∧ News (apS S o) l
structure Ok (s : Lg) : Prop where
  len : s.ends.length = s.ops.length
  rise : Rise 0 s.ends
  news : News d0 s.ops
  safe : s.safe ≤ s.bytes
  hi : Tg.top s ≤ s.bytes
  go : s.stopped = false → s.bytes = Tg.top s

theorem last_snoc (l : List Nat) (a x : Nat) : (l ++ [x]).getLastD a = x := by simp
theorem rise_snoc : ∀ {l : List Nat} {a x : Nat}, Rise a l → l.getLastD a + 2 ≤ x → Rise a (l ++ [x])
  | [], a, x, _, h => ⟨h, trivial⟩
  | e :: l, a, x, h, h2 => ⟨h.1, rise_snoc h.2 (by rw [List.getLastD_cons] at h2; exact h2)⟩
theorem news_snoc : ∀ {l : List Ox} {S : Dq} {o : Ox}, News S l → isNew (l.foldl apS S) o = true → News S (l ++ [o])
  | [], S, o, _, h => ⟨h, trivial⟩
  | x :: l, S, o, h, h2 => ⟨h.1, news_snoc h.2 h2⟩
theorem news_take : ∀ {l : List Ox} {S : Dq} (k : Nat), News S l → News S (l.take k)
  | [], S, k, _ => by rw [List.take_nil]; trivial
  | x :: l, S, 0, _ => trivial
  | x :: l, S, k + 1, h => ⟨h.1, news_take k h.2⟩
theorem ok_new : Ok new := ⟨rfl, trivial, trivial, Nat.le_refl _, Nat.le_refl _, fun _ => rfl⟩
theorem ok_put {s : Lg} (h : Ok s) (o : Ox) {r : Nat} (hr : 2 ≤ r) : Ok (putS s o r) := by
  unfold putS
  cases hs : s.stopped with
  | true => rw [if_pos rfl]; exact h
  | false =>
    rw [if_neg (by decide)]
    cases hn : isNew (doc s) o with
    | false => rw [if_neg (by decide)]; exact h
    | true =>
      rw [if_pos rfl]
      by_cases hf : s.fail = some 0
      · rw [if_pos hf]
        exact ⟨h.len, h.rise, h.news, by have := h.safe; show s.safe ≤ s.bytes + r / 2; omega, by have := h.hi; show top s ≤ s.bytes + r / 2; omega, fun e => by cases e⟩
      · rw [if_neg hf]
        have hg := h.go hs
        refine ⟨by show (s.ends ++ [s.bytes + r]).length = (s.ops ++ [o]).length; rw [List.length_append, List.length_append, h.len]; rfl, rise_snoc h.rise (by show top s + 2 ≤ s.bytes + r; omega), news_snoc h.news hn, by have := h.safe; show s.safe ≤ s.bytes + r; omega, ?_, fun _ => ?_⟩
        · show (s.ends ++ [s.bytes + r]).getLastD 0 ≤ s.bytes + r
          rw [last_snoc]; exact Nat.le_refl _
        · show s.bytes + r = (s.ends ++ [s.bytes + r]).getLastD 0
          rw [last_snoc]
theorem ok_sync {s : Lg} (h : Ok s) : Ok (syncS s) := by
  unfold syncS
  cases hs : s.stopped with
  | true => rw [if_pos rfl]; exact h
  | false =>
    rw [if_neg (by decide)]
    by_cases hf : s.fail = some 0
    · rw [if_pos hf]; exact ⟨h.len, h.rise, h.news, h.safe, h.hi, fun e => by cases e⟩
    · rw [if_neg hf]; exact ⟨h.len, h.rise, h.news, Nat.le_refl _, h.hi, fun _ => h.go hs⟩
theorem ok_fail {s : Lg} (h : Ok s) (n : Int) : Ok (failS s n) := ⟨h.len, h.rise, h.news, h.safe, h.hi, h.go⟩
theorem left_le (s : Lg) (keep : Int) : leftN s keep ≤ s.ends.length := by
  unfold leftN; exact List.Sublist.length_le (List.takeWhile_sublist _)

/- LogStops: strikes of one author at one place -/
def nbP : ByteArray := ⟨#[110, 98]⟩
def stk (i : Nat) : Ox := ((1, (i : Int) + 1), 2, nbP, 0, [])
def stks (n : Nat) : List Ox := (List.range n).map stk
theorem stks_next (n : Nat) : stks (n + 1) = stks n ++ [stk n] := by unfold stks; rw [List.range_succ, List.map_append]; rfl
theorem stks_take (n k : Nat) (h : k ≤ n) : (stks n).take k = stks k := by
  unfold stks; rw [← List.map_take, List.take_range, Nat.min_eq_left h]
theorem stks_len (n : Nat) : (stks n).length = n := by unfold stks; simp
def bad : Ox := ((0, 0), 0, ⟨#[]⟩, 0, [])
def fin : Ox := ((2, 1), 1, ⟨#[112, 98]⟩, 104, [])
theorem bad_op : opE bad = 1 := by kernel_rfl
theorem bad_ap (S : Dq) : apE S bad = 1 ∧ isNew S bad = false := by
  constructor
  · unfold apE; rw [bad_op, if_pos (by decide)]
  · unfold isNew; rw [bad_op]; rfl
theorem all_new : ((List.range 21).all fun n => isNew (st (stks n)) (stk n)) = true := by kernel_rfl
theorem all_fin : ((List.range 22).all fun n => isNew (st (stks n)) fin && decide (Lf.textR (apS (st (stks n)) fin).book = ⟨#[104]⟩)) = true := by kernel_rfl
theorem stk_new {n : Nat} (h : n ≤ 20) : isNew (st (stks n)) (stk n) = true := List.all_eq_true.1 all_new n (List.mem_range.2 (by omega))
theorem fin_new {n : Nat} (h : n ≤ 21) : isNew (st (stks n)) fin = true ∧ Lf.textR (apS (st (stks n)) fin).book = ⟨#[104]⟩ := by
  have h9 := List.all_eq_true.1 all_fin n (List.mem_range.2 (by omega))
  simp only [Bool.and_eq_true, decide_eq_true_eq] at h9
  exact h9

end Tg
end Go.Proofs.YtgefpcchcegcpaaGreatDoor
