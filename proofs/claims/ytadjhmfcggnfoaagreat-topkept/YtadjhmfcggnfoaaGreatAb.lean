/- Two that have what the other one has know the same, and lack nothing more: plain mathematics. -/
import Derived.Test.YtadjhmfcggnfoaaGreatAa
import Derived.Test.YtadjhmfcggnfoaaGreatJa
namespace Go.Proofs.YtadjhmfcggnfoaaGreat
namespace Ab
set_option linter.unusedVariables false
open Cm Om Hm Um Aa

theorem kn_up {S : Dq} {o : Ox} (I : Inv S) : ∀ u : Int, 1 ≤ u → u ≤ 8 → kn S u ≤ kn (apS S o) u := by
  intro u h1 h2
  unfold apS
  cases h : isNew S o with
  | false => exact Int.le_refl _
  | true =>
    obtain ⟨h0, hk, _, _⟩ := isNew_iff.1 h
    obtain ⟨d1, d2, _, _⟩ := dotE_iff.1 (opE_zero.1 h0).1
    rw [if_pos rfl, kn_next S o u I.klen h1 h2 d1 d2]
    split
    · rename_i e; rw [e]; omega
    · exact Int.le_refl _
/- an op that is taken without a fault is known behind it -/
theorem ap_knows {S : Dq} {o : Ox} (I : Inv S) (h0 : opE o = 0) (he : apE S o = 0) : o.1.2 ≤ kn (apS S o) o.1.1 := by
  obtain ⟨d1, d2, _, _⟩ := dotE_iff.1 (opE_zero.1 h0).1
  by_cases hk : o.1.2 ≤ kn S o.1.1
  · exact Int.le_trans hk (kn_up I _ d1 d2)
  · have hn : isNew S o = true := by
      unfold apE at he
      rw [if_neg (by simpa using h0), if_neg hk] at he
      by_cases h6 : kn S o.1.1 < o.1.2 - 1
      · rw [if_pos h6] at he; cases he
      · rw [if_neg h6] at he
        by_cases h4 : 400 ≤ S.ops.length
        · rw [if_pos h4] at he; cases he
        · rw [if_neg h4] at he
          exact isNew_iff.2 ⟨h0, by omega, by omega, he⟩
    unfold apS
    rw [hn, if_pos rfl, kn_next S o _ I.klen d1 d2 d1 d2, if_pos rfl]; exact Int.le_refl _
theorem ap_ops {S : Dq} {o x : Ox} (h : x ∈ (apS S o).ops) : x ∈ S.ops ∨ x = o := by
  unfold apS at h
  cases hn : isNew S o with
  | false => rw [hn] at h; exact Or.inl h
  | true =>
    rw [hn, if_pos rfl] at h
    rcases List.mem_append.1 (show x ∈ S.ops ++ [o] from h) with h | h
    · exact Or.inl h
    · exact Or.inr (List.mem_singleton.1 h)
theorem ops_ap {S : Dq} {o x : Ox} (h : x ∈ S.ops) : x ∈ (apS S o).ops := by
  unfold apS
  cases hn : isNew S o with
  | false => exact h
  | true => rw [if_pos rfl]; exact List.mem_append_left _ h
structure Ran (S T : Dq) (L : List Ox) : Prop where
  inv : Inv T
  ord : Ord T
  up : ∀ u : Int, 1 ≤ u → u ≤ 8 → kn S u ≤ kn T u
  all : ∀ o ∈ L, o.1.2 ≤ kn T o.1.1
  old : ∀ o ∈ S.ops, o ∈ T.ops
  of : ∀ o ∈ T.ops, o ∈ S.ops ∨ o ∈ L
theorem run_ran : ∀ (L : List Ox) {S : Dq}, Inv S → Ord S → (∀ o ∈ L, opE o = 0) → runE S L = 0 → Ran S (runS S L) L
  | [], S, I, O, _, _ => ⟨I, O, fun _ _ _ => Int.le_refl _, (fun o ho => by cases ho), fun o ho => ho, fun o ho => Or.inl ho⟩
  | o :: L, S, I, O, hr, h => by
    by_cases h0 : apE S o = 0
    · have h1 : ¬ apE S o ≠ 0 := by simpa using h0
      simp only [runE, if_neg h1] at h
      simp only [runS, if_neg h1]
      have ho := hr o (List.mem_cons_self ..)
      obtain ⟨d1, d2, _, _⟩ := dotE_iff.1 (opE_zero.1 ho).1
      have R := run_ran L (inv_ap I) (ord_ap I O) (fun x hx => hr x (List.mem_cons_of_mem _ hx)) h
      refine ⟨R.inv, R.ord, fun u u1 u2 => Int.le_trans (kn_up I u u1 u2) (R.up u u1 u2), fun x hx => ?_, fun x hx => R.old x (ops_ap hx), fun x hx => ?_⟩
      · rcases List.mem_cons.1 hx with rfl | hx
        · exact Int.le_trans (ap_knows I ho h0) (R.up _ d1 d2)
        · exact R.all x hx
      · rcases R.of x hx with hx | hx
        · rcases ap_ops hx with hx | hx
          · exact Or.inl hx
          · rw [hx]; exact Or.inr (List.mem_cons_self ..)
        · exact Or.inr (List.mem_cons_of_mem _ hx)
    · simp only [runE, if_pos h0] at h; exact absurd h h0
/- what one had, the other one knows -/
theorem b1_ran {A B : Dq} (IA : Inv A) (IB : Inv B) (OB : Ord B) (h : b1E A B = 0) : Inv (b1S A B) ∧ Ord (b1S A B) ∧ (∀ o ∈ A.ops, o.1.2 ≤ kn (b1S A B) o.1.1) ∧ (∀ o ∈ B.ops, o ∈ (b1S A B).ops) ∧ (∀ o ∈ (b1S A B).ops, o ∈ A.ops ∨ o ∈ B.ops) := by
  have R := run_ran (lackL A.ops B.known) IB OB (fun o ho => IA.right o (lack_mem ho)) h
  refine ⟨R.inv, R.ord, fun o ho => ?_, R.old, fun o ho => ?_⟩
  · obtain ⟨d1, d2, _, _⟩ := dotE_iff.1 (opE_zero.1 (IA.right o ho)).1
    by_cases hk : o.1.2 ≤ kn B o.1.1
    · exact Int.le_trans hk (R.up _ d1 d2)
    · refine R.all o (List.mem_filter.2 ⟨ho, ?_⟩)
      rw [lack_kn, decide_eq_false hk]; rfl
  · rcases R.of o ho with h | h
    · exact Or.inr h
    · exact Or.inl (lack_mem h)
theorem dots_one {S : Dq} (O : Ord S) {a b : Ox} (ha : a ∈ S.ops) (hb : b ∈ S.ops) (h : a.1 = b.1) : a = b := by
  have hn := List.pairwise_map.1 (Ja.seq_nodup O.seq)
  rw [List.pairwise_iff_getElem] at hn
  obtain ⟨i, hi, rfl⟩ := List.mem_iff_getElem.1 ha
  obtain ⟨j, hj, rfl⟩ := List.mem_iff_getElem.1 hb
  by_cases h1 : i < j
  · exact absurd h (hn i j hi hj h1)
  · by_cases h2 : j < i
    · exact absurd h.symm (hn j i hj hi h2)
    · obtain rfl : i = j := by omega
      rfl
theorem kn_le {A B : Dq} (IA : Inv A) (OA : Ord A) (IB : Inv B) (h : ∀ o ∈ A.ops, o.1.2 ≤ kn B o.1.1) : ∀ u : Int, 1 ≤ u → u ≤ 8 → kn A u ≤ kn B u := by
  intro u h1 h2
  by_cases h0 : 1 ≤ kn A u
  · obtain ⟨o, ho, e⟩ := Ja.ord_all OA ⟨h1, h2⟩ h0 (Int.le_refl _)
    have := h o ho
    rw [e] at this; exact this
  · have := IB.kno u h1 h2
    omega
/- then none lacks anything -/
structure Met (A B : Dq) : Prop where
  book : A.book = B.book
  marks : A.marks = B.marks
  known : A.known = B.known
  e1 : botE A B = 0
  n1 : botN A B = 0
  m1 : botM A B = 0
  sa : botA A B = A
  sb : b1S A B = B
  le : lackE A.ops B.known = 0
  ll : lackL A.ops B.known = []
theorem lack_none {A B : Dq} (h : ∀ o ∈ A.ops, o.1.2 ≤ kn B o.1.1) : lackL A.ops B.known = [] := by
  unfold lackL
  refine List.filter_eq_nil_iff.2 (fun o ho => ?_)
  rw [lack_kn, decide_eq_true (h o ho)]; simp
theorem met {A B : Dq} (IA : Inv A) (OA : Ord A) (IB : Inv B) (OB : Ord B) (hc : ∀ a ∈ A.ops, ∀ b ∈ B.ops, a.1 = b.1 → a = b) (h : botE A B = 0) : Met (botA A B) (b1S A B) := by
  have h1 : b1E A B = 0 := by
    unfold botE at h
    by_cases e : b1E A B = 0
    · exact e
    · rw [if_pos e] at h; exact h
  have n1 : ¬ b1E A B ≠ 0 := by simpa using h1
  have h2 : b1E (b1S A B) A = 0 := by unfold botE at h; rw [if_neg n1] at h; exact h
  have eA : botA A B = b1S (b1S A B) A := by unfold botA; rw [if_neg n1]
  rw [eA]
  obtain ⟨ib, ob, b1, b2, b3⟩ := b1_ran IA IB OB h1
  obtain ⟨ia, oa, a1, a2, a3⟩ := b1_ran ib IA OA h2
  obtain ⟨TB, hTB⟩ : ∃ T, T = b1S A B := ⟨_, rfl⟩
  rw [← hTB] at ib ob b1 b2 b3 ia oa a1 a2 a3 ⊢
  obtain ⟨TA, hTA⟩ : ∃ T, T = b1S TB A := ⟨_, rfl⟩
  rw [← hTA] at ia oa a1 a2 a3 ⊢
  have hk1 := kn_le ib ob ia a1
  have toB : ∀ o ∈ TA.ops, o.1.2 ≤ kn TB o.1.1 := fun o ho => by
    rcases a3 o ho with e | e
    · exact known_mem ib ob o e
    · exact b1 o e
  have hk2 := kn_le ia oa ib toB
  have src : ∀ o, o ∈ TA.ops ∨ o ∈ TB.ops → o ∈ A.ops ∨ o ∈ B.ops := fun o ho => by
    rcases ho with e | e
    · rcases a3 o e with e | e
      · exact b3 o e
      · exact Or.inl e
    · exact b3 o e
  have same : ∀ x y, (x ∈ TA.ops ∨ x ∈ TB.ops) → (y ∈ TA.ops ∨ y ∈ TB.ops) → x.1 = y.1 → x = y := fun x y hx hy e => by
    rcases src x hx with p | p <;> rcases src y hy with q | q
    · exact dots_one OA p q e
    · exact hc x p y q e
    · exact (hc y q x p e.symm).symm
    · exact dots_one OB p q e
  have side : ∀ {S T : Dq}, Inv S → Ord S → Ord T → (∀ o ∈ S.ops, o.1.2 ≤ kn T o.1.1) → ∀ o ∈ S.ops, ∃ y ∈ T.ops, y.1 = o.1 := by
    intro S T IS OS OT hle o ho
    obtain ⟨d1, d2, d3, _⟩ := dotE_iff.1 (opE_zero.1 (IS.right o ho)).1
    obtain ⟨y, hy, e⟩ := Ja.ord_all OT ⟨d1, d2⟩ d3 (hle o ho)
    exact ⟨y, hy, e⟩
  have hm : ∀ o, o ∈ TA.ops ↔ o ∈ TB.ops := fun o => by
    constructor
    · intro ho
      obtain ⟨y, hy, e⟩ := side ia oa ob toB o ho
      rw [← same y o (Or.inr hy) (Or.inl ho) e]; exact hy
    · intro ho
      obtain ⟨y, hy, e⟩ := side ib ob oa a1 o ho
      rw [← same y o (Or.inl hy) (Or.inr ho) e]; exact hy
  have nd : ∀ {S : Dq}, Ord S → S.ops.Nodup := fun O => (List.pairwise_map.1 (Ja.seq_nodup O.seq)).imp (fun h e => h (by rw [e]))
  have hp : TA.ops.Perm TB.ops := (List.perm_ext_iff_of_nodup (nd oa) (nd ob)).2 hm
  obtain ⟨m1, m2, m3⟩ := meet ia ib hp
  have l1 : lackL TA.ops TB.known = [] := lack_none toB
  have l2 : lackL TB.ops TA.known = [] := lack_none a1
  have c1 : b1E TA TB = 0 := by unfold b1E; rw [l1]; rfl
  have c2 : b1S TA TB = TB := by unfold b1S; rw [l1]; rfl
  have c3 : b1E TB TA = 0 := by unfold b1E; rw [l2]; rfl
  have c4 : b1S TB TA = TA := by unfold b1S; rw [l2]; rfl
  have c5 : b1N TA TB = 0 := by unfold b1N; rw [l1]; rfl
  have c6 : b1N TB TA = 0 := by unfold b1N; rw [l2]; rfl
  have e0 : botE TA TB = 0 := by unfold botE; rw [c1, if_neg (by decide), c2, c3]
  refine ⟨m1, m2, m3, e0, ?_, ?_, ?_, c2, ?_, l1⟩
  · unfold botN; rw [e0, if_neg (by decide), c5]
  · unfold botM; rw [e0, if_neg (by decide), c2, c6]
  · unfold botA; rw [c1, if_neg (by decide), c2, c4]
  · unfold lackE
    have hv : Dm.vecE TB.known = 0 := by
      refine Dm.vecE_zero.2 ⟨ib.klen, fun x hx => ?_⟩
      obtain ⟨i, hi, e⟩ := List.mem_iff_getElem.1 hx
      have h8 : i < 8 := by rw [← ib.klen]; exact hi
      have h1 := ib.kno ((i : Int) + 1) (by omega) (by omega)
      unfold kn at h1
      rw [show ((i : Int) + 1 - 1).toNat = i by omega, List.getD_eq_getElem?_getD, List.getElem?_eq_getElem hi] at h1
      have h3 : (TB.ops.filter fun o => decide (o.1.1 = (i : Int) + 1)).length ≤ TB.ops.length := List.length_filter_le _ _
      have h4 := ib.few
      simp only [Option.getD_some] at h1
      rw [← e]; omega
    rw [hv, if_neg (by decide)]
    exact packE_zero.2 ⟨ia.few, ia.right⟩

end Ab
end Go.Proofs.YtadjhmfcggnfoaaGreat
