/- What the laws ask of package log: a log in memory, and each call's answer, at all inputs. -/
import Derived.Test.YtgefpcchcegcpaaGreatDoorTg
namespace Go.Proofs.YtgefpcchcegcpaaGreatDoor
namespace Th
set_option linter.unusedVariables false
open Go.ChangeShapes Go.WideShapes Go.ChangeAt Go.RowKit Cm Ka Kb Na Om Oa Oz Oc Og Oi Hm Ia Tg
open La (bel bel_drew errV_zero errV_ne own_ge own_grow own_below Lies)

abbrev ptr (X : Nat) : Value := .pointer (some ⟨X, 0, none⟩)
/- few bytes, few ops -/
def Fit (s : Lg) : Prop := s.bytes ≤ 100000000 ∧ s.ops.length ≤ 400
structure LogSays where
  At : World → Nat → Lg → (Nat → Prop) → Prop
  ok : ∀ {w : World} {X : Nat} {s : Lg} {F : Nat → Prop}, At w X s F → Ok s
  lt : ∀ {w : World} {X : Nat} {s : Lg} {F : Nat → Prop}, At w X s F → ∀ g, F g → g < w.heap.size
  stay : ∀ {w w' : World} {X : Nat} {s : Lg} {F : Nat → Prop}, At w X s F → Stay F w w' → w.heap.size ≤ w'.heap.size → At w' X s F
  new : ∀ (w : World), Calls Tryz.prog 5 #[] w fun e w' => ∃ X F, e = .returned (ptr X) ∧ At w' X Tg.new F ∧ (∀ g, F g → w.heap.size ≤ g) ∧ Below w.heap.size w w'
  put : ∀ (X : Nat) (s : Lg) (F : Nat → Prop) (a b t : Int) (p : ByteArray) (c : Int) (vs : Value) (sd : List Dt) (w : World), At w X s F → Fit s → DtsAt w vs sd → In (fun g => ¬ F g) vs → p.size ≤ maxLen → Calls Tryz.prog 8 #[ptr X, .agg #[.int .i64 a, .int .i64 b, .int .i64 t, .string p, .int .i64 c, vs]] w fun e w' => e = .returned (.tuple #[.bool (putN s ((a, b), t, p, c, sd)), errV (putE s ((a, b), t, p, c, sd))]) ∧ ∃ r F', 2 ≤ r ∧ r ≤ 100000 ∧ At w' X (putS s ((a, b), t, p, c, sd) r) F' ∧ Chg F w w' ∧ ∀ g, F' g → F g ∨ w.heap.size ≤ g
  sync : ∀ (X : Nat) (s : Lg) (F : Nat → Prop) (w : World), At w X s F → Fit s → Calls Tryz.prog 6 #[ptr X] w fun e w' => e = .returned (errV (syncE s)) ∧ ∃ F', At w' X (syncS s) F' ∧ Chg F w w' ∧ ∀ g, F' g → F g ∨ w.heap.size ≤ g
  crash : ∀ (X : Nat) (s : Lg) (F : Nat → Prop) (n : Int) (w : World), At w X s F → Fit s → Calls Tryz.prog 10 #[ptr X, .int .i64 n] w fun e w' => e = .returned (.tuple #[]) ∧ ∃ F', At w' X (crashS s n) F' ∧ Chg F w w' ∧ ∀ g, F' g → F g ∨ w.heap.size ≤ g
  doc : ∀ (X : Nat) (s : Lg) (F : Nat → Prop) (w : World), At w X s F → Calls Tryz.prog 11 #[ptr X] w fun e w' => ∃ D Fd, e = .returned (ptr D) ∧ DocAt w' D (Tg.doc s) Fd ∧ (∀ g, Fd g → F g) ∧ Below w.heap.size w w'
/- what TopKept does not ask: that it stops -/
structure LogFails (L : LogSays) : Prop where
  fail : ∀ (X : Nat) (s : Lg) (F : Nat → Prop) (n : Int) (w : World), L.At w X s F → n < 9223372036854775808 → Calls Tryz.prog 7 #[ptr X, .int .i64 n] w fun e w' => e = .returned (.tuple #[]) ∧ ∃ F', L.At w' X (failS s n) F' ∧ Chg F w w' ∧ ∀ g, F' g → F g ∨ w.heap.size ≤ g
/- what LogStops does not ask: how many bytes there are -/
structure LogTells (L : LogSays) : Prop where
  bytes : ∀ (X : Nat) (s : Lg) (F : Nat → Prop) (w : World), L.At w X s F → Fit s → Calls Tryz.prog 13 #[ptr X] w fun e w' => e = .returned (.int .i64 s.bytes) ∧ Below w.heap.size w w'
  safe : ∀ (X : Nat) (s : Lg) (F : Nat → Prop) (w : World), L.At w X s F → Fit s → Calls Tryz.prog 14 #[ptr X] w fun e w' => e = .returned (.int .i64 s.safe) ∧ Below w.heap.size w w'
theorem LogSays.below (L : LogSays) {w w' : World} {X : Nat} {s : Lg} {F : Nat → Prop} (h : L.At w X s F) (hb : Below w.heap.size w w') : L.At w' X s F := L.stay h (fun g hg => hb.block g (L.lt h g hg)) hb.size
theorem LogSays.chg (L : LogSays) {w w' : World} {X : Nat} {s : Lg} {F H : Nat → Prop} (h : L.At w X s F) (hc : Chg H w w') (hd : ∀ g, F g → ¬ H g) : L.At w' X s F := L.stay h (hc.stay fun g hg => ⟨L.lt h g hg, hd g hg⟩) hc.size
/- one log, from block B on -/
structure Lc (L : LogSays) (w0 w : World) (X : Nat) (s : Lg) (F : Nat → Prop) : Prop where
  at' : L.At w X s F
  low : ∀ g, F g → w0.heap.size ≤ g
  bel : Below w0.heap.size w0 w
theorem Lc.below {L : LogSays} {w0 w w' : World} {X : Nat} {s : Lg} {F : Nat → Prop} (h : Lc L w0 w X s F) (hb : Below w.heap.size w w') : Lc L w0 w' X s F := ⟨L.below h.at' hb, h.low, La.bel h.bel hb⟩
theorem Lc.set {L : LogSays} {w0 w w' : World} {X : Nat} {s s' : Lg} {F : Nat → Prop} (h : Lc L w0 w X s F) (hl : ∃ F', L.At w' X s' F' ∧ Chg F w w' ∧ ∀ g, F' g → F g ∨ w.heap.size ≤ g) : ∃ F', Lc L w0 w' X s' F' := by
  obtain ⟨F', h1, h2, h3⟩ := hl
  refine ⟨F', h1, fun g e => ?_, h2.below h.low h.bel h.bel.size⟩
  rcases h3 g e with e | e
  · exact h.low g e
  · have := h.bel.size; omega

/- LogStops: i steps are done; A: the step at which it stops -/
structure Run (A i n : Nat) (s : Lg) : Prop where
  ops : s.ops = stks n
  few : n ≤ 20
  go : i ≤ A → s.stopped = false ∧ s.fail = some (A - i)
  no : A < i → s.stopped = true
  small : s.bytes ≤ 100000 * i
theorem Run.fit {A i n : Nat} {s : Lg} (h : Run A i n s) (hi : i ≤ 50) : Fit s := ⟨by have := h.small; omega, by rw [h.ops, stks_len]; have := h.few; omega⟩
theorem Run.bad {A i n : Nat} {s : Lg} (h : Run A i n s) (r : Nat) : putS s bad r = s ∧ putN s bad = false ∧ (i ≤ A → putE s bad = 1) ∧ (A < i → putE s bad = 6) := by
  obtain ⟨b1, b2⟩ := bad_ap (Tg.doc s)
  refine ⟨?_, ?_, fun e => ?_, fun e => ?_⟩
  · unfold putS
    cases s.stopped with
    | true => rw [if_pos rfl]
    | false => rw [if_neg (by decide), b2, if_neg (by decide)]
  · unfold putN; rw [b2]; simp
  · unfold putE; rw [(h.go e).1, if_neg (by decide), b2, if_neg (by decide), b1]
  · unfold putE; rw [h.no e, if_pos rfl]
theorem Run.put {A i : Nat} {s : Lg} (h : Run A i (min i A) s) (hA : A ≤ 20) (hi : i < 20) {r : Nat} (hr : r ≤ 100000) : Run A (i + 1) (min (i + 1) A) (putS s (stk i) r) ∧ (i < A → putE s (stk i) = 0) ∧ (A ≤ i → putE s (stk i) = 6) := by
  rcases Nat.lt_trichotomy i A with e | e | e
  · obtain ⟨g1, g2⟩ := h.go (by omega)
    have e1 : min i A = i := by omega
    have e2 : min (i + 1) A = i + 1 := by omega
    have hn : isNew (Tg.doc s) (stk i) = true := by unfold Tg.doc; rw [h.ops, e1]; exact stk_new (by omega)
    have hf : ¬ s.fail = some 0 := by rw [g2]; intro e9; injection e9 with e9; omega
    refine ⟨?_, fun _ => ?_, fun e9 => by omega⟩
    · unfold putS
      rw [g1, if_neg (by decide), hn, if_pos rfl, if_neg hf]
      refine ⟨by show s.ops ++ [stk i] = _; rw [h.ops, e1, e2, stks_next], by omega, fun _ => ⟨rfl, ?_⟩, fun e9 => by omega, by show s.bytes + r ≤ _; have := h.small; omega⟩
      show less s.fail = _
      rw [g2]
      show some (A - i - 1) = _
      rw [show A - i - 1 = A - (i + 1) by omega]
    · unfold putE; rw [g1, if_neg (by decide), hn, if_pos rfl, if_neg hf]
  · subst e
    obtain ⟨g1, g2⟩ := h.go (Nat.le_refl _)
    have e1 : min i i = i := Nat.min_self i
    have e2 : min (i + 1) i = i := by omega
    have hn : isNew (Tg.doc s) (stk i) = true := by unfold Tg.doc; rw [h.ops, e1]; exact stk_new (by omega)
    have hf : s.fail = some 0 := by rw [g2, Nat.sub_self]
    refine ⟨?_, fun e9 => by omega, fun _ => ?_⟩
    · unfold putS
      rw [g1, if_neg (by decide), hn, if_pos rfl, if_pos hf]
      exact ⟨by show s.ops = _; rw [h.ops, e1, e2], by omega, fun e9 => by omega, fun _ => rfl, by show s.bytes + r / 2 ≤ _; have := h.small; omega⟩
    · unfold putE; rw [g1, if_neg (by decide), hn, if_pos rfl, if_pos hf]
  · have g := h.no e
    have e2 : min (i + 1) A = min i A := by omega
    refine ⟨?_, fun e9 => by omega, fun _ => ?_⟩
    · unfold putS
      rw [g, if_pos rfl]
      exact ⟨by rw [e2]; exact h.ops, by omega, fun e9 => by omega, fun _ => g, by have := h.small; omega⟩
    · unfold putE; rw [g, if_pos rfl]
theorem Run.sync {A i n : Nat} {s : Lg} (h : Run A i n s) : Run A (i + 1) n (syncS s) ∧ (i < A → syncE s = 0) ∧ (A ≤ i → syncE s = 6) := by
  rcases Nat.lt_trichotomy i A with e | e | e
  · obtain ⟨g1, g2⟩ := h.go (by omega)
    have hf : ¬ s.fail = some 0 := by rw [g2]; intro e9; injection e9 with e9; omega
    refine ⟨?_, fun _ => ?_, fun e9 => by omega⟩
    · unfold syncS
      rw [g1, if_neg (by decide), if_neg hf]
      refine ⟨h.ops, h.few, fun _ => ⟨rfl, ?_⟩, fun e9 => by omega, by show s.bytes ≤ _; have := h.small; omega⟩
      show less s.fail = _
      rw [g2]
      show some (A - i - 1) = _
      rw [show A - i - 1 = A - (i + 1) by omega]
    · unfold syncE; rw [g1, if_neg (by decide), if_neg hf]
  · subst e
    obtain ⟨g1, g2⟩ := h.go (Nat.le_refl _)
    have hf : s.fail = some 0 := by rw [g2, Nat.sub_self]
    refine ⟨?_, fun e9 => by omega, fun _ => ?_⟩
    · unfold syncS
      rw [g1, if_neg (by decide), if_pos hf]
      exact ⟨h.ops, h.few, fun e9 => by omega, fun _ => rfl, by show s.bytes ≤ _; have := h.small; omega⟩
    · unfold syncE; rw [g1, if_neg (by decide), if_pos hf]
  · have g := h.no e
    refine ⟨?_, fun e9 => by omega, fun _ => ?_⟩
    · unfold syncS
      rw [g, if_pos rfl]
      exact ⟨h.ops, h.few, fun e9 => by omega, fun _ => g, by have := h.small; omega⟩
    · unfold syncE; rw [g, if_pos rfl]
/- behind the crash -/
structure Aft (s : Lg) : Prop where
  ops : ∃ k, k ≤ 20 ∧ s.ops = stks k
  go : s.stopped = false
  fail : s.fail = none
  small : s.bytes ≤ 5000000
theorem last_le : ∀ {l : List Nat} {a : Nat}, Rise a l → ∀ k, (l.take k).getLastD a ≤ l.getLastD a
  | [], a, _, k => by rw [List.take_nil]; exact Nat.le_refl _
  | e :: l, a, h, 0 => by
    have := last_le h.2 0
    rw [List.take_zero] at this
    show a ≤ _
    rw [List.getLastD_cons]
    have h1 := h.1
    have h2 : e ≤ l.getLastD e := this
    omega
  | e :: l, a, h, k + 1 => by
    rw [List.take_succ_cons, List.getLastD_cons, List.getLastD_cons]
    exact last_le h.2 k
theorem Run.crash {A i n : Nat} {s : Lg} (h : Run A i n s) (ho : Ok s) (hi : i ≤ 50) (keep : Int) : Aft (crashS s keep) := by
  have hl := left_le s keep
  rw [ho.len, h.ops, stks_len] at hl
  have hf := h.few
  refine ⟨⟨leftN s keep, by omega, ?_⟩, rfl, rfl, ?_⟩
  · show s.ops.take (leftN s keep) = _
    rw [h.ops, stks_take _ _ hl]
  · show (s.ends.take (leftN s keep)).getLastD 0 ≤ _
    have h1 := last_le ho.rise (leftN s keep)
    have h2 := ho.hi
    have h3 := h.small
    unfold Tg.top at h2
    omega
theorem Aft.fit {s : Lg} (h : Aft s) : Fit s := by
  obtain ⟨k, h1, h2⟩ := h.ops
  exact ⟨by have := h.small; omega, by rw [h2, stks_len]; omega⟩
theorem Aft.put {s : Lg} (h : Aft s) {r : Nat} (hr : r ≤ 100000) : putN s fin = true ∧ putE s fin = 0 ∧ syncE (putS s fin r) = 0 ∧ Fit (putS s fin r) ∧ Lf.textR (Tg.doc (syncS (putS s fin r))).book = ⟨#[104]⟩ := by
  obtain ⟨k, h1, h2⟩ := h.ops
  obtain ⟨f1, f2⟩ := fin_new (n := k) (by omega)
  have hn : isNew (Tg.doc s) fin = true := by unfold Tg.doc; rw [h2]; exact f1
  have hf : ¬ s.fail = some 0 := by rw [h.fail]; intro e; cases e
  have hs : putS s fin r = { s with ops := s.ops ++ [fin], ends := s.ends ++ [s.bytes + r], bytes := s.bytes + r, fail := less s.fail } := by
    unfold putS; rw [h.go, if_neg (by decide), hn, if_pos rfl, if_neg hf]
  refine ⟨?_, ?_, ?_, ?_, ?_⟩
  · unfold putN; rw [h.go, hn, decide_eq_false hf]; rfl
  · unfold putE; rw [h.go, if_neg (by decide), hn, if_pos rfl, if_neg hf]
  · rw [hs]; unfold syncE
    show (if s.stopped = true then (6 : Int) else if less s.fail = some 0 then 6 else 0) = 0
    rw [h.go, if_neg (by decide), h.fail, if_neg (by intro e; cases e)]
  · rw [hs]
    exact ⟨by show s.bytes + r ≤ _; have := h.small; omega, by show (s.ops ++ [fin]).length ≤ _; rw [List.length_append, h2, stks_len]; show k + 1 ≤ _; omega⟩
  · have e1 : (syncS (putS s fin r)).ops = s.ops ++ [fin] := by
      rw [hs]; unfold syncS
      split
      · rfl
      · split <;> rfl
    unfold Tg.doc st
    rw [e1, List.foldl_append, h2]
    exact f2

end Th
end Go.Proofs.YtgefpcchcegcpaaGreatDoor
