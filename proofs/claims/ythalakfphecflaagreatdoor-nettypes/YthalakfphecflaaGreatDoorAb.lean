/- Two that have what the other one has know the same, and lack nothing more: plain mathematics. -/
import Derived.Test.YthalakfphecflaaGreatDoorAa
import Derived.Test.YthalakfphecflaaGreatDoorJa
namespace Go.Proofs.YthalakfphecflaaGreatDoor
namespace Ab
set_option linter.unusedVariables false
open Cm Om Hm Um Aa

theorem kn_up {S : Dq} {o : Ox} (I : Inv S) : ∀ u : Int, 1 ≤ u → u ≤ 8 → kn S u ≤ kn (apS S o) u := by
  intro u h1 h2
  unfold apS
  cases h : isNew S o with
  | false => exact Int.le_refl _
  | true =>
    obtain ⟨h0, hk, _, _⟩ := isNew_iff.1 h
    obtain ⟨d1, d2, _, _⟩ := dotE_iff.1 (opE_zero.1 h0).1
    rw [if_pos rfl, kn_next S o u I.klen h1 h2 d1 d2]
    split
    · rename_i e; rw [e]; omega
    · exact Int.le_refl _
/- an op that is taken without a fault is known behind it -/
theorem ap_knows {S : Dq} {o : Ox} (I : Inv S) (h0 : opE o = 0) (he : apE S o = 0) : o.1.2 ≤ kn (apS S o) o.1.1 := by
  obtain ⟨d1, d2, _, _⟩ := dotE_iff.1 (opE_zero.1 h0).1
  by_cases hk : o.1.2 ≤ kn S o.1.1
  · exact Int.le_trans hk (kn_up I _ d1 d2)
  · have hn : isNew S o = true := by
      unfold apE at he
      rw [if_neg (by simpa using h0), if_neg hk] at he
      by_cases h6 : kn S o.1.1 < o.1.2 - 1
      · rw [if_pos h6] at he; cases he
      · rw [if_neg h6] at he
        by_cases h4 : 400 ≤ S.ops.length
        · rw [if_pos h4] at he; cases he
        · rw [if_neg h4] at he
          exact isNew_iff.2 ⟨h0, by omega, by omega, he⟩
    unfold apS
    rw [hn, if_pos rfl, kn_next S o _ I.klen d1 d2 d1 d2, if_pos rfl]; exact Int.le_refl _
theorem ap_ops {S : Dq} {o x : Ox} (h : x ∈ (apS S o).ops) : x ∈ S.ops ∨ x = o := by
  unfold apS at h
  cases hn : isNew S o with
  | false => rw [hn] at h; exact Or.inl h
  | true =>
    rw [hn, if_pos rfl] at h
    rcases List.mem_append.1 (show x ∈ S.ops ++ [o] from h) with h | h
    · exact Or.inl h
    · exact Or.inr (List.mem_singleton.1 h)
theorem ops_ap {S : Dq} {o x : Ox} (h : x ∈ S.ops) : x ∈ (apS S o).ops := by
  unfold apS
  cases hn : isNew S o with
  | false => exact h
  | true => rw [if_pos rfl]; exact List.mem_append_left _ h
structure Ran (S T : Dq) (L : List Ox) : Prop where
  inv : Inv T
  ord : Ord T
  up : ∀ u : Int, 1 ≤ u → u ≤ 8 → kn S u ≤ kn T u
  all : ∀ o ∈ L, o.1.2 ≤ kn T o.1.1
  old : ∀ o ∈ S.ops, o ∈ T.ops
  of : ∀ o ∈ T.ops, o ∈ S.ops ∨ o ∈ L
theorem run_ran : ∀ (L : List Ox) {S : Dq}, Inv S → Ord S → (∀ o ∈ L, opE o = 0) → runE S L = 0 → Ran S (runS S L) L
  | [], S, I, O, _, _ => ⟨I, O, fun _ _ _ => Int.le_refl _, (fun o ho => by cases ho), fun o ho => ho, fun o ho => Or.inl ho⟩
  | o :: L, S, I, O, hr, h => by
    by_cases h0 : apE S o = 0
    · have h1 : ¬ apE S o ≠ 0 := by simpa using h0
      simp only [runE, if_neg h1] at h
      simp only [runS, if_neg h1]
      have ho := hr o (List.mem_cons_self ..)
      obtain ⟨d1, d2, _, _⟩ := dotE_iff.1 (opE_zero.1 ho).1
      have R := run_ran L (inv_ap I) (ord_ap I O) (fun x hx => hr x (List.mem_cons_of_mem _ hx)) h
      refine ⟨R.inv, R.ord, fun u u1 u2 => Int.le_trans (kn_up I u u1 u2) (R.up u u1 u2), fun x hx => ?_, fun x hx => R.old x (ops_ap hx), fun x hx => ?_⟩
      · rcases List.mem_cons.1 hx with rfl | hx
        · exact Int.le_trans (ap_knows I ho h0) (R.up _ d1 d2)
        · exact R.all x hx
      · rcases R.of x hx with hx | hx
        · rcases ap_ops hx with hx | hx
          · exact Or.inl hx
          · rw [hx]; exact Or.inr (List.mem_cons_self ..)
        · exact Or.inr (List.mem_cons_of_mem _ hx)
    · simp only [runE, if_pos h0] at h; exact absurd h h0
/- what one had, the other one knows -/
theorem b1_ran {A B : Dq} (IA : Inv A) (IB : Inv B) (OB : Ord B) (h : b1E A B = 0) : Inv (b1S A B) ∧ Ord (b1S A B) ∧ (∀ o ∈ A.ops, o.1.2 ≤ kn (b1S A B) o.1.1) ∧ (∀ o ∈ B.ops, o ∈ (b1S A B).ops) ∧ (∀ o ∈ (b1S A B).ops, o ∈ A.ops ∨ o ∈ B.ops) := by
  have R := run_ran (lackL A.ops B.known) IB OB (fun o ho => IA.right o (lack_mem ho)) h
  refine ⟨R.inv, R.ord, fun o ho => ?_, R.old, fun o ho => ?_⟩
  · obtain ⟨d1, d2, _, _⟩ := dotE_iff.1 (opE_zero.1 (IA.right o ho)).1
    by_cases hk : o.1.2 ≤ kn B o.1.1
    · exact Int.le_trans hk (R.up _ d1 d2)
    · refine R.all o (List.mem_filter.2 ⟨ho, ?_⟩)
      rw [lack_kn, decide_eq_false hk]; rfl
  · rcases R.of o ho with h | h
    · exact Or.inr h
    · exact Or.inl (lack_mem h)
theorem dots_one {S : Dq} (O : Ord S) {a b : Ox} (ha : a ∈ S.ops) (hb : b ∈ S.ops) (h : a.1 = b.1) : a = b := by
  have hn := List.pairwise_map.1 (Ja.seq_nodup O.seq)
  rw [List.pairwise_iff_getElem] at hn
  obtain ⟨i, hi, rfl⟩ := List.mem_iff_getElem.1 ha
  obtain ⟨j, hj, rfl⟩ := List.mem_iff_getElem.1 hb
  by_cases h1 : i < j
  · exact absurd h (hn i j hi hj h1)
  · by_cases h2 : j < i
    · exact absurd h.symm (hn j i hj hi h2)
    · obtain rfl : i = j := by omega
      rfl
/- then none lacks anything -/
end Ab
end Go.Proofs.YthalakfphecflaaGreatDoor
