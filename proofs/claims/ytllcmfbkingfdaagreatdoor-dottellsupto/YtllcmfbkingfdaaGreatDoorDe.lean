/- The plain mathematics of vectors: what is wrong with one, what it has, adding, merging, comparing, writing and reading. No program is named here. -/
import Derived.Test.YtllcmfbkingfdaaGreatDoorDm
namespace Go.Proofs.YtllcmfbkingfdaaGreatDoor
namespace Dm
set_option linter.unusedVariables false
open Go.Lib

def bad (n : Int) : Bool := decide (n < 0) || decide (9999 < n)
def vecE (v : List Int) : Int := if v.length = 8 then (if v.any bad then 1 else 0) else 3
def dotE (who n : Int) : Int := if who < 1 ∨ 8 < who ∨ n < 1 ∨ 9999 < n then 1 else 0
def withE (v : List Int) (who n : Int) : Int := if vecE v = 0 then dotE who n else vecE v
def bothE (a b : List Int) : Int := if vecE a = 0 then vecE b else vecE a
def known (v : List Int) (who : Int) : Int := v.getD (who - 1).toNat 0
def hasB (v : List Int) (who n : Int) : Bool := decide (withE v who n = 0) && decide (n ≤ known v who)
def addE (v : List Int) (who n : Int) : Int :=
  if withE v who n ≠ 0 then withE v who n else if n ≤ known v who then 7 else if known v who + 1 < n then 6 else 0
def addV (v : List Int) (who n : Int) : List Int := if addE v who n = 0 then v.set (who - 1).toNat n else []
def mergeL (a b : List Int) : List Int := List.zipWith max a b
def mergeV (a b : List Int) : List Int := if bothE a b = 0 then mergeL a b else []
def more (a b : List Int) : Bool := (List.range 8).any fun i => decide (b.getD i 0 < a.getD i 0)
def cmpI (a b : List Int) : Int := if more a b && more b a then 0 else if more a b then 1 else if more b a then -1 else 0
def cmpK (a b : List Int) : Int := if bothE a b = 0 then cmpI a b else 0
def cmpB (a b : List Int) : Bool := decide (bothE a b = 0) && !(more a b && more b a)
def printL (v : List Int) : List UInt8 := join (v.map itoa) [46]
def printT (v : List Int) : List UInt8 := if vecE v = 0 then printL v else []
def nums : List (List UInt8) → Option (List Int)
  | [] => some []
  | x :: r => match numO x with
    | none => none
    | some n => (nums r).map fun l => n :: l
def parseE (s : List UInt8) : Int := match nums (cut s) with
  | none => 2
  | some v => vecE v
def parseV (s : List UInt8) : List Int := match nums (cut s) with
  | none => []
  | some v => if vecE v = 0 then v else []

theorem vecE_zero {v : List Int} : vecE v = 0 ↔ v.length = 8 ∧ ∀ n ∈ v, 0 ≤ n ∧ n ≤ 9999 := by
  unfold vecE
  by_cases h : v.length = 8
  · rw [if_pos h]
    by_cases h2 : v.any bad = true
    · rw [if_pos h2]
      refine ⟨fun e => absurd e (by decide), fun e => ?_⟩
      obtain ⟨n, hn, hb⟩ := List.any_eq_true.1 h2
      have := e.2 n hn
      simp [bad] at hb; omega
    · rw [if_neg h2]
      refine ⟨fun _ => ⟨h, fun n hn => ?_⟩, fun _ => rfl⟩
      have h3 : bad n = false := by
        cases hb : bad n
        · rfl
        · exact absurd (List.any_eq_true.2 ⟨n, hn, hb⟩) h2
      simp [bad] at h3; omega
  · rw [if_neg h]
    exact ⟨fun e => absurd e (by decide), fun e => absurd e.1 h⟩

theorem nums_itoa : ∀ (xs : List (List UInt8)) (v : List Int), nums xs = some v → v.map itoa = xs ∧ v.length = xs.length
  | [], v, h => by simp only [nums, Option.some.injEq] at h; subst h; exact ⟨rfl, rfl⟩
  | x :: r, v, h => by
    simp only [nums] at h
    cases hx : numO x with
    | none => rw [hx] at h; cases h
    | some n =>
      rw [hx] at h
      simp only at h
      cases hr : nums r with
      | none => rw [hr] at h; cases h
      | some l =>
        rw [hr] at h
        simp only [Option.map_some, Option.some.injEq] at h
        subst h
        obtain ⟨h1, h2⟩ := nums_itoa r l hr
        exact ⟨by rw [List.map_cons, (numO_itoa hx).1, h1], by simp [h2]⟩

theorem nums_of : ∀ (v : List Int), (∀ n ∈ v, 0 ≤ n ∧ n ≤ 9999) → nums (v.map itoa) = some v
  | [], _ => rfl
  | n :: r, h => by
    obtain ⟨u, rfl⟩ : ∃ u : Nat, n = u := ⟨n.toNat, by have := h n (by simp); omega⟩
    have hu := h u (by simp)
    simp only [List.map_cons, nums]
    rw [itoa_nat, numO_dec (by omega), nums_of r (fun m hm => h m (by simp [hm]))]
    rfl

/- what is read is written as it was -/
theorem print_parse {s : List UInt8} (h : parseE s = 0) : vecE (parseV s) = 0 ∧ printT (parseV s) = s := by
  unfold parseE at h
  unfold parseV printT printL
  cases hn : nums (cut s) with
  | none => rw [hn] at h; exact absurd h (by decide)
  | some v =>
    rw [hn] at h
    simp only at h ⊢
    rw [if_pos h]
    refine ⟨h, ?_⟩
    rw [if_pos h, (nums_itoa _ _ hn).1, join_cut]

theorem itoa_dot (n : Int) (h : 0 ≤ n) : (46 : UInt8) ∉ itoa n := by
  obtain ⟨u, rfl⟩ : ∃ u : Nat, n = u := ⟨n.toNat, by omega⟩
  rw [itoa_nat]; exact dec_dot u

/- what is written is read as it was -/
theorem parse_print {v : List Int} (h : vecE v = 0) : parseE (printT v) = 0 ∧ parseV (printT v) = v := by
  have hv := vecE_zero.1 h
  have hc : cut (printT v) = v.map itoa := by
    unfold printT printL
    rw [if_pos h]
    refine cut_join _ ?_ ?_
    · intro e
      have := congrArg List.length e
      simp at this
      rw [this] at hv; exact absurd hv.1 (by decide)
    · intro x hx
      obtain ⟨n, hn, rfl⟩ := List.mem_map.1 hx
      exact itoa_dot n (hv.2 n hn).1
  unfold parseE parseV
  rw [hc, nums_of v hv.2]
  simp only
  exact ⟨h, by rw [if_pos h]⟩

theorem mergeL_vec {a b : List Int} (ha : vecE a = 0) (hb : vecE b = 0) : vecE (mergeL a b) = 0 := by
  have ha' := vecE_zero.1 ha
  have hb' := vecE_zero.1 hb
  refine vecE_zero.2 ⟨by simp [mergeL]; omega, fun n hn => ?_⟩
  obtain ⟨i, hi, e⟩ := List.getElem_of_mem hn
  simp only [mergeL, List.length_zipWith] at hi
  simp only [mergeL, List.getElem_zipWith] at e
  have h1 := ha'.2 a[i] (List.getElem_mem _)
  have h2 := hb'.2 b[i] (List.getElem_mem _)
  omega

theorem mergeL_comm (a b : List Int) : mergeL a b = mergeL b a := by
  unfold mergeL
  exact List.zipWith_comm_of_comm (fun x y => by omega)

theorem mergeL_assoc : ∀ (a b c : List Int), mergeL (mergeL a b) c = mergeL a (mergeL b c)
  | [], _, _ => by simp [mergeL]
  | _ :: _, [], _ => by simp [mergeL]
  | _ :: _, _ :: _, [] => by simp [mergeL]
  | x :: a, y :: b, z :: c => by
    have := mergeL_assoc a b c
    simp only [mergeL] at this ⊢
    simp only [List.zipWith_cons_cons, this]
    congr 1; omega

theorem bothE_zero {a b : List Int} : bothE a b = 0 ↔ vecE a = 0 ∧ vecE b = 0 := by
  unfold bothE
  by_cases h : vecE a = 0
  · rw [if_pos h]; simp [h]
  · rw [if_neg h]; simp [h]

theorem more_merge {a b : List Int} (ha : vecE a = 0) (hb : vecE b = 0) : more a (mergeL a b) = false := by
  have ha' := vecE_zero.1 ha
  have hb' := vecE_zero.1 hb
  cases h : more a (mergeL a b) with
  | false => rfl
  | true =>
    obtain ⟨i, hi, h2⟩ := List.any_eq_true.1 h
    have hi8 : i < 8 := List.mem_range.1 hi
    simp only [decide_eq_true_eq, List.getD_eq_getElem?_getD] at h2
    rw [List.getElem?_eq_getElem (by simp [mergeL]; omega), List.getElem?_eq_getElem (by omega)] at h2
    simp only [mergeL, List.getElem_zipWith, Option.getD_some] at h2
    omega

theorem cmp_merge {a b : List Int} (ha : vecE a = 0) (hb : vecE b = 0) : cmpK a (mergeL a b) ≤ 0 ∧ cmpB a (mergeL a b) = true := by
  have hm := mergeL_vec ha hb
  have h1 := more_merge ha hb
  unfold cmpK cmpB cmpI
  rw [if_pos (bothE_zero.2 ⟨ha, hm⟩), h1]
  simp only [Bool.false_and, Bool.false_eq_true, if_false]
  refine ⟨by split <;> decide, by simp [bothE_zero.2 ⟨ha, hm⟩]⟩

theorem cmp_swap {a b : List Int} (ha : vecE a = 0) (hb : vecE b = 0) : cmpK b a = - cmpK a b ∧ cmpB b a = cmpB a b := by
  unfold cmpK cmpB cmpI
  rw [if_pos (bothE_zero.2 ⟨ha, hb⟩), if_pos (bothE_zero.2 ⟨hb, ha⟩)]
  cases more a b <;> cases more b a <;> simp [bothE_zero.2 ⟨ha, hb⟩, bothE_zero.2 ⟨hb, ha⟩]

/- a vector of which one author alone is known -/
def one (who k : Int) : List Int := (List.replicate 8 0).set (who - 1).toNat k
theorem one_vec {who k : Int} (h1 : 1 ≤ who) (h8 : who ≤ 8) (h0 : 0 ≤ k) (h9 : k ≤ 9999) : vecE (one who k) = 0 := by
  refine vecE_zero.2 ⟨by simp [one], fun n hn => ?_⟩
  rcases List.mem_or_eq_of_mem_set hn with h | h
  · simp at h; omega
  · omega
theorem one_known {who k : Int} (h1 : 1 ≤ who) (h8 : who ≤ 8) : known (one who k) who = k := by
  unfold known one
  rw [List.getD_eq_getElem?_getD, List.getElem?_set_self (by simp; omega)]; rfl
theorem one_set {who k m : Int} : (one who k).set (who - 1).toNat m = one who m := by
  unfold one; rw [List.set_set]
theorem one_zero {who : Int} : one who 0 = [0, 0, 0, 0, 0, 0, 0, 0] := by
  unfold one
  rw [show List.replicate 8 (0 : Int) = [0, 0, 0, 0, 0, 0, 0, 0] from rfl]
  apply List.ext_getElem?
  intro i
  rw [List.getElem?_set]
  split
  · next h =>
    subst h
    split
    · next h2 =>
      rw [show ([0, 0, 0, 0, 0, 0, 0, 0] : List Int) = List.replicate 8 0 from rfl, List.getElem?_replicate_of_lt (by simpa using h2)]
    · next h2 => rw [List.getElem?_eq_none (by simpa using h2)]
  · rfl

theorem dotE_zero {who n : Int} (h1 : 1 ≤ who) (h8 : who ≤ 8) (h0 : 1 ≤ n) (h9 : n ≤ 9999) : dotE who n = 0 := by
  unfold dotE; rw [if_neg (by omega)]
theorem one_with {who k n : Int} (h1 : 1 ≤ who) (h8 : who ≤ 8) (h0 : 0 ≤ k) (h9 : k ≤ 9999) (g0 : 1 ≤ n) (g9 : n ≤ 9999) : withE (one who k) who n = 0 := by
  unfold withE; rw [if_pos (one_vec h1 h8 h0 h9), dotE_zero h1 h8 g0 g9]
theorem one_add {who k : Int} (h1 : 1 ≤ who) (h8 : who ≤ 8) (h0 : 0 ≤ k) (h9 : k < 9999) : addE (one who k) who (k + 1) = 0 ∧ addV (one who k) who (k + 1) = one who (k + 1) := by
  have he : addE (one who k) who (k + 1) = 0 := by
    unfold addE
    rw [one_with h1 h8 h0 (by omega) (by omega) (by omega), one_known h1 h8, if_neg (by simp), if_neg (by omega), if_neg (by omega)]
  exact ⟨he, by unfold addV; rw [if_pos he, one_set]⟩
theorem one_late {who k : Int} (h1 : 1 ≤ who) (h8 : who ≤ 8) (h0 : 0 ≤ k) (h9 : k < 9998) : addE (one who k) who (k + 2) = 6 := by
  unfold addE
  rw [one_with h1 h8 h0 (by omega) (by omega) (by omega), one_known h1 h8, if_neg (by simp), if_neg (by omega), if_pos (by omega)]
theorem one_has {who k n : Int} (h1 : 1 ≤ who) (h8 : who ≤ 8) (h0 : 0 ≤ k) (h9 : k ≤ 9999) (g0 : 1 ≤ n) (g9 : n ≤ 9999) : hasB (one who k) who n = decide (n ≤ k) := by
  unfold hasB; rw [one_with h1 h8 h0 h9 g0 g9, one_known h1 h8]; simp

end Dm
end Go.Proofs.YtllcmfbkingfdaaGreatDoor
