/- Forty marks and no more, all at one place. No program is named here. -/
import Derived.Test.YtcmoajlcmeimiaaDoorCn
namespace Go.Proofs.YtcmoajlcmeimiaaDoor
namespace Cm
set_option linter.unusedVariables false
open Op (bytesLess)

def nbP : ByteArray := ⟨#[110, 98]⟩
theorem nbP_list : nbP.toList = [110, 98] := ByteArray.toList_mk [110, 98]
theorem nbP_chk : Pm.chk nbP.toList = 0 := by rw [nbP_list]; decide
def mk1 (i : Nat) : Mk := (nbP, (1, (i : Int)))
def fullM (n : Nat) : List Mk := (List.range n).map fun i => mk1 (i + 1)
theorem mk1_right {i : Nat} (h1 : 1 ≤ i) (h2 : i ≤ 60) : markE (mk1 i) = 0 := by
  unfold markE mk1
  rw [if_neg (by rw [nbP_chk]; decide)]
  unfold dotE
  rw [if_neg (by simp only []; omega)]
theorem mk1_lt {i j : Nat} : mlt (mk1 i) (mk1 j) = decide (i < j) := by
  unfold mlt mk1
  rw [Bm.less_irrefl]
  simp [dlt]
theorem mem_fullM {n : Nat} {x : Mk} : x ∈ fullM n ↔ ∃ i, 1 ≤ i ∧ i ≤ n ∧ x = mk1 i := by
  unfold fullM
  rw [List.mem_map]
  constructor
  · rintro ⟨i, hi, rfl⟩
    have := List.mem_range.1 hi
    exact ⟨i + 1, by omega, by omega, rfl⟩
  · rintro ⟨i, h1, h2, rfl⟩
    exact ⟨i - 1, List.mem_range.2 (by omega), by rw [show i - 1 + 1 = i by omega]⟩
theorem fullM_length (n : Nat) : (fullM n).length = n := by simp [fullM]
theorem fullM_rise (n : Nat) : Rise mlt (fullM n) := by
  unfold Rise fullM
  rw [List.pairwise_map]
  refine List.pairwise_lt_range.imp ?_
  intro a b h
  rw [mk1_lt, decide_eq_true_eq]; omega
theorem fullM_right {n : Nat} (h : n ≤ 40) : marksE (fullM n) = 0 := by
  refine marksE_zero.2 ⟨by rw [fullM_length]; exact h, ?_, fullM_rise n⟩
  intro m hm
  obtain ⟨i, h1, h2, rfl⟩ := mem_fullM.1 hm
  exact mk1_right h1 (by omega)
theorem mk1_inj {i j : Nat} (h : mk1 i = mk1 j) : i = j := by
  unfold mk1 at h
  injection h with h1 h2
  injection h2 with h2 h3
  omega
theorem fullM_not {n i : Nat} (h : n < i) : mk1 i ∉ fullM n := by
  intro hm
  obtain ⟨j, h1, h2, e⟩ := mem_fullM.1 hm
  have := mk1_inj e; omega
theorem fullM_cut {n : Nat} (h : n < 40) : cutE (fullM n) (mk1 (n + 1)) = 0 ∧ cutL (fullM n) (mk1 (n + 1)) = fullM (n + 1) := by
  have hc : cutE (fullM n) (mk1 (n + 1)) = 0 := cutE_zero.2 ⟨fullM_right (by omega), mk1_right (by omega) (by omega), Or.inr (by rw [fullM_length]; exact h)⟩
  refine ⟨hc, ?_⟩
  rw [(cut_marks hc).1]
  refine rise_ext mlt_strict (ins_rise mlt_strict (fullM_rise n) _) (fullM_rise _) fun x => ?_
  rw [mem_ins, mem_fullM, mem_fullM]
  constructor
  · rintro (rfl | ⟨i, h1, h2, rfl⟩)
    · exact ⟨n + 1, by omega, by omega, rfl⟩
    · exact ⟨i, h1, by omega, rfl⟩
  · rintro ⟨i, h1, h2, rfl⟩
    by_cases e : i = n + 1
    · exact Or.inl (by rw [e])
    · exact Or.inr ⟨i, h1, by omega, rfl⟩
theorem fullM_no {i : Nat} (h1 : 40 < i) (h2 : i ≤ 60) : cutE (fullM 40) (mk1 i) = 4 ∧ cutL (fullM 40) (mk1 i) = [] := by
  have e : cutE (fullM 40) (mk1 i) = 4 := by
    unfold cutE
    rw [if_neg (by rw [fullM_right (by omega)]; decide), if_neg (by rw [mk1_right (by omega) h2]; decide)]
    unfold withM
    rw [if_neg (fun e => fullM_not h1 (there_iff.1 e)), if_pos (by rw [fullM_length]; omega)]
  exact ⟨e, by unfold cutL; rw [e]; rfl⟩
theorem fullM_at (n : Nat) : at' (fullM n) nbP = fullM n := by
  unfold at'
  rw [List.filter_eq_self]
  intro x hx
  obtain ⟨i, _, _, rfl⟩ := mem_fullM.1 hx
  simp [mk1]
theorem fullM_dots (n : Nat) : (dotsAt (fullM n) nbP).length = n := by
  unfold dotsAt; rw [fullM_at, List.length_map, fullM_length]
theorem fullM_seen {n : Nat} (h : n ≤ 40) : seenE (fullM n) nbP = 0 := seenE_zero.2 ⟨fullM_right h, nbP_chk⟩
theorem fullM_join {n : Nat} (h : n ≤ 40) : joinE (fullM n) nbP (dotsAt (fullM n) nbP) = 0 ∧ joinL (fullM n) nbP (dotsAt (fullM n) nbP) = [] := by
  obtain ⟨h1, _, h3⟩ := join_all (fullM_seen h)
  refine ⟨h1, List.eq_nil_of_length_eq_zero ?_⟩
  rw [fullM_dots, fullM_length] at h3; omega
theorem places_same : ∀ {l : List Mk} {p : ByteArray}, (∀ x ∈ l, x.1 = p) → l ≠ [] → placesL l = [p]
  | [], _, _, h => absurd rfl h
  | [m], p, h, _ => by rw [placesL, h m (List.mem_cons_self ..)]
  | m :: x :: l, p, h, _ => by
    have e1 := h m (List.mem_cons_self ..)
    have e2 := h x (List.mem_cons_of_mem _ (List.mem_cons_self ..))
    rw [placesL, if_pos (by rw [e1, e2])]
    exact places_same (fun y hy => h y (List.mem_cons_of_mem _ hy)) (by simp)
theorem fullM_places (n : Nat) : placesL (fullM n) = if n = 0 then [] else [nbP] := by
  by_cases h : n = 0
  · subst h; rfl
  · rw [if_neg h]
    refine places_same ?_ ?_
    · intro x hx
      obtain ⟨i, _, _, rfl⟩ := mem_fullM.1 hx
      rfl
    · intro e
      have := fullM_length n
      rw [e] at this; exact h this.symm

end Cm
end Go.Proofs.YtcmoajlcmeimiaaDoor
