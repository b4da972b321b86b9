/- Marks that are cut and joined: what stays, what is seen. No program is named here. -/
import Derived.Test.YtcmoajlcmeimiaaDoorCm
namespace Go.Proofs.YtcmoajlcmeimiaaDoor
namespace Cm
set_option linter.unusedVariables false
open Op (bytesLess)

def withM (l : List Mk) (m : Mk) : Int := if there l m then 0 else if 40 ≤ l.length then 4 else 0
def cutE (l : List Mk) (m : Mk) : Int := if marksE l ≠ 0 then marksE l else if markE m ≠ 0 then markE m else withM l m
def cutL (l : List Mk) (m : Mk) : List Mk := if cutE l m = 0 then ins mlt l m else []
def at' (l : List Mk) (p : ByteArray) : List Mk := l.filter fun x => decide (x.1 = p)
def dotsAt (l : List Mk) (p : ByteArray) : List Dt := (at' l p).map (·.2)
def seenE (l : List Mk) (p : ByteArray) : Int := if marksE l ≠ 0 then marksE l else Pm.chk p.toList
def seenL (l : List Mk) (p : ByteArray) : List Dt := if seenE l p = 0 then dotsAt l p else []
/- dots one by one, then rising -/
def dotsE (s : List Dt) : Int := match s.find? (fun d => decide (dotE d.1 d.2 ≠ 0)) with
  | some d => dotE d.1 d.2
  | none => if (List.range (s.length - 1)).all (fun i => dlt (s.getD i (0, 0)) (s.getD (i + 1) (0, 0))) then 0 else 7
def joinE (l : List Mk) (p : ByteArray) (s : List Dt) : Int := if seenE l p ≠ 0 then seenE l p else if 40 < s.length then 4 else dotsE s
def without (l : List Mk) (p : ByteArray) (s : List Dt) : List Mk := l.filter fun x => !(decide (x.1 = p) && decide (x.2 ∈ s))
def joinL (l : List Mk) (p : ByteArray) (s : List Dt) : List Mk := if joinE l p s = 0 then without l p s else []
/- the places that have a mark, each once: of a list that rises -/
def placesL : List Mk → List ByteArray
  | [] => []
  | [m] => [m.1]
  | m :: x :: l => if m.1.toList = x.1.toList then placesL (x :: l) else m.1 :: placesL (x :: l)

theorem seenE_zero {l : List Mk} {p : ByteArray} : seenE l p = 0 ↔ marksE l = 0 ∧ Pm.chk p.toList = 0 := by
  unfold seenE
  by_cases h : marksE l = 0
  · rw [if_neg (by simpa using h)]; simp [h]
  · rw [if_pos h]; simp [h]
theorem cutE_zero {l : List Mk} {m : Mk} : cutE l m = 0 ↔ marksE l = 0 ∧ markE m = 0 ∧ (m ∈ l ∨ l.length < 40) := by
  unfold cutE
  by_cases h : marksE l = 0
  · rw [if_neg (by simpa using h)]
    by_cases h2 : markE m = 0
    · rw [if_neg (by simpa using h2)]
      unfold withM
      by_cases h3 : m ∈ l
      · rw [if_pos (there_iff.2 h3)]; simp [h, h2, h3]
      · rw [if_neg (fun e => h3 (there_iff.1 e))]
        by_cases h4 : 40 ≤ l.length
        · rw [if_pos h4]; simp [h, h2, h3]; omega
        · rw [if_neg h4]; simp [h, h2, h3]; omega
    · rw [if_pos h2]; simp [h2]
  · rw [if_pos h]; simp [h]
theorem cut_marks {l : List Mk} {m : Mk} (h : cutE l m = 0) : cutL l m = ins mlt l m ∧ marksE (cutL l m) = 0 := by
  have e : cutL l m = ins mlt l m := by unfold cutL; rw [if_pos h]
  obtain ⟨h1, h2, h3⟩ := cutE_zero.1 h
  obtain ⟨g1, g2, g3⟩ := marksE_zero.1 h1
  refine ⟨e, ?_⟩
  rw [e]
  refine marksE_zero.2 ⟨?_, ?_, ins_rise mlt_strict g3 m⟩
  · rw [ins_length]
    rcases h3 with h3 | h3
    · rw [if_pos h3]; exact g1
    · split <;> omega
  · intro y hy
    rcases (mem_ins l m y).1 hy with rfl | hy
    · exact h2
    · exact g2 y hy
theorem cut_again {l : List Mk} {m : Mk} (h : cutE l m = 0) : cutE (cutL l m) m = 0 ∧ cutL (cutL l m) m = cutL l m := by
  obtain ⟨e, hm⟩ := cut_marks h
  have hin : m ∈ cutL l m := by rw [e]; exact (mem_ins l m m).2 (Or.inl rfl)
  have h2 : cutE (cutL l m) m = 0 := cutE_zero.2 ⟨hm, (cutE_zero.1 h).2.1, Or.inl hin⟩
  exact ⟨h2, by rw [(cut_marks h2).1]; exact ins_there hin⟩

theorem mem_at {l : List Mk} {p : ByteArray} {x : Mk} : x ∈ at' l p ↔ x ∈ l ∧ x.1 = p := by
  unfold at'; rw [List.mem_filter, decide_eq_true_eq]
theorem mem_dots {l : List Mk} {p : ByteArray} {d : Dt} : d ∈ dotsAt l p ↔ (p, d) ∈ l := by
  unfold dotsAt
  rw [List.mem_map]
  constructor
  · rintro ⟨x, hx, rfl⟩
    obtain ⟨h1, h2⟩ := mem_at.1 hx
    rw [← h2]; exact h1
  · intro h; exact ⟨(p, d), mem_at.2 ⟨h, rfl⟩, rfl⟩
theorem dots_rise {l : List Mk} (hr : Rise mlt l) (p : ByteArray) : Rise dlt (dotsAt l p) := by
  unfold Rise dotsAt
  rw [List.pairwise_map]
  have h1 : (at' l p).Pairwise fun x y => mlt x y = true := filter_rise hr _
  refine h1.imp_of_mem ?_
  intro a b ha hb hab
  have ea := (mem_at.1 ha).2
  have eb := (mem_at.1 hb).2
  simp only [mlt, Bool.or_eq_true, Bool.and_eq_true, decide_eq_true_eq] at hab
  rcases hab with hab | hab
  · rw [ea, eb, Bm.less_irrefl] at hab; cases hab
  · exact hab.2
theorem dotsE_zero {s : List Dt} : dotsE s = 0 ↔ (∀ d ∈ s, dotE d.1 d.2 = 0) ∧ Rise dlt s := by
  unfold dotsE
  cases hf : s.find? (fun d => decide (dotE d.1 d.2 ≠ 0)) with
  | some d =>
    have h1 := List.find?_some hf
    have h2 := List.mem_of_find?_eq_some hf
    simp only [decide_eq_true_eq] at h1
    constructor
    · intro h; exact absurd h h1
    · rintro ⟨h, _⟩; exact h d h2
  | none =>
    have h0 : ∀ d ∈ s, dotE d.1 d.2 = 0 := by
      intro d hd
      have := List.find?_eq_none.1 hf d hd
      simpa using this
    have key : (List.range (s.length - 1)).all (fun i => dlt (s.getD i (0, 0)) (s.getD (i + 1) (0, 0))) = true ↔ Rise dlt s := by
      rw [rise_steps dlt_strict, List.all_eq_true]
      constructor
      · intro h i hi a b ha hb
        have := h i (List.mem_range.2 (by omega))
        rw [List.getD_eq_getElem?_getD, List.getD_eq_getElem?_getD, ha, hb] at this
        exact this
      · intro h i hi
        have hi2 := List.mem_range.1 hi
        rw [List.getD_eq_getElem?_getD, List.getD_eq_getElem?_getD, List.getElem?_eq_getElem (show i < s.length by omega), List.getElem?_eq_getElem (show i + 1 < s.length by omega)]
        exact h i (by omega) _ _ (List.getElem?_eq_getElem _) (List.getElem?_eq_getElem _)
    simp only
    constructor
    · intro h
      refine ⟨h0, key.1 ?_⟩
      cases h9 : (List.range (s.length - 1)).all (fun i => dlt (s.getD i (0, 0)) (s.getD (i + 1) (0, 0)))
      · rw [h9] at h; exact absurd h (by decide)
      · rfl
    · rintro ⟨_, h⟩; rw [key.2 h]; rfl
theorem dots_right {l : List Mk} (h : marksE l = 0) (p : ByteArray) : dotsE (dotsAt l p) = 0 ∧ (dotsAt l p).length ≤ 40 := by
  obtain ⟨g1, g2, g3⟩ := marksE_zero.1 h
  refine ⟨dotsE_zero.2 ⟨fun d hd => ?_, dots_rise g3 p⟩, ?_⟩
  · have := g2 _ (mem_dots.1 hd)
    unfold markE at this
    by_cases hc : Pm.chk p.toList = 0
    · rw [if_neg (by simpa using hc)] at this; exact this
    · rw [if_pos hc] at this; exact absurd this hc
  · have h2 : (dotsAt l p).length ≤ l.length := by unfold dotsAt at'; rw [List.length_map]; exact List.length_filter_le _ _
    omega
theorem joinE_zero {l : List Mk} {p : ByteArray} {s : List Dt} : joinE l p s = 0 ↔ seenE l p = 0 ∧ s.length ≤ 40 ∧ dotsE s = 0 := by
  unfold joinE
  by_cases h : seenE l p = 0
  · rw [if_neg (by simpa using h)]
    by_cases h2 : 40 < s.length
    · rw [if_pos h2]; simp; omega
    · rw [if_neg h2]; simp [h]; omega
  · rw [if_pos h]; simp [h]
theorem join_marks {l : List Mk} {p : ByteArray} {s : List Dt} (h : joinE l p s = 0) : joinL l p s = without l p s ∧ marksE (joinL l p s) = 0 := by
  have e : joinL l p s = without l p s := by unfold joinL; rw [if_pos h]
  obtain ⟨g1, g2, g3⟩ := marksE_zero.1 (seenE_zero.1 (joinE_zero.1 h).1).1
  refine ⟨e, ?_⟩
  rw [e]
  refine marksE_zero.2 ⟨?_, ?_, filter_rise g3 _⟩
  · have := List.length_filter_le (fun x : Mk => !(decide (x.1 = p) && decide (x.2 ∈ s))) l
    unfold without; omega
  · intro y hy; exact g2 y (List.mem_filter.1 hy).1
theorem dots_without (l : List Mk) (p : ByteArray) (s : List Dt) : dotsAt (without l p s) p = (dotsAt l p).filter fun d => !decide (d ∈ s) := by
  unfold dotsAt at' without
  rw [List.filter_filter, List.filter_map, List.filter_filter]
  congr 1
  apply List.filter_congr
  intro x _
  by_cases h : x.1 = p <;> simp [h]
/- joined by all that are there: none is there, and as many fewer -/
theorem join_all {l : List Mk} {p : ByteArray} (h : seenE l p = 0) : joinE l p (dotsAt l p) = 0 ∧ dotsAt (joinL l p (dotsAt l p)) p = [] ∧ (joinL l p (dotsAt l p)).length + (dotsAt l p).length = l.length := by
  have hm := (seenE_zero.1 h).1
  have hd := dots_right hm p
  have hj : joinE l p (dotsAt l p) = 0 := joinE_zero.2 ⟨h, hd.2, hd.1⟩
  refine ⟨hj, ?_, ?_⟩
  · rw [(join_marks hj).1, dots_without, List.filter_eq_nil_iff]
    intro d hd2; simp [hd2]
  · rw [(join_marks hj).1]
    have e : without l p (dotsAt l p) = l.filter fun x => !decide (x.1 = p) := by
      unfold without
      apply List.filter_congr
      intro x hx
      by_cases h2 : x.1 = p
      · have : x.2 ∈ dotsAt l p := mem_dots.2 (by rw [← h2]; exact hx)
        simp [h2, this]
      · simp [h2]
    rw [e]
    unfold dotsAt at'
    rw [List.length_map]
    have key : ∀ k : List Mk, (k.filter fun x => !decide (x.1 = p)).length + (k.filter fun x => decide (x.1 = p)).length = k.length := by
      intro k
      induction k with
      | nil => rfl
      | cons x k ih =>
        by_cases h2 : x.1 = p
        · simp [h2] at ih ⊢; omega
        · simp [h2] at ih ⊢; omega
    exact key l
/- one cut more, joined by what was seen ahead of it: it stays, if it was not seen -/
theorem join_stays {l : List Mk} {m : Mk} (hl : seenE l m.1 = 0) (hc : cutE l m = 0) :
    joinE (cutL l m) m.1 (dotsAt l m.1) = 0 ∧ dotsAt (joinL (cutL l m) m.1 (dotsAt l m.1)) m.1 = (if m.2 ∈ dotsAt l m.1 then [] else [m.2]) := by
  obtain ⟨e, hm⟩ := cut_marks hc
  have hml := (seenE_zero.1 hl).1
  have hd := dots_right hml m.1
  have hs : seenE (cutL l m) m.1 = 0 := seenE_zero.2 ⟨hm, (seenE_zero.1 hl).2⟩
  have hj : joinE (cutL l m) m.1 (dotsAt l m.1) = 0 := joinE_zero.2 ⟨hs, hd.2, hd.1⟩
  refine ⟨hj, ?_⟩
  rw [(join_marks hj).1, dots_without]
  have hr := dots_rise (marksE_zero.1 hm).2.2 m.1
  refine rise_ext dlt_strict (filter_rise hr _) ?_ ?_
  · split
    · exact List.Pairwise.nil
    · exact List.pairwise_singleton _ _
  · intro d
    rw [List.mem_filter, mem_dots, e, mem_ins]
    by_cases h : m.2 ∈ dotsAt l m.1
    · rw [if_pos h]
      constructor
      · rintro ⟨h1, h2⟩
        simp only [Bool.not_eq_true', decide_eq_false_iff_not] at h2
        rcases h1 with h1 | h1
        · exact absurd (by rw [← h1] at h; exact h) h2
        · exact absurd (mem_dots.2 h1) h2
      · intro h1; simp at h1
    · rw [if_neg h]
      constructor
      · rintro ⟨h1, h2⟩
        simp only [Bool.not_eq_true', decide_eq_false_iff_not] at h2
        rcases h1 with h1 | h1
        · rw [← h1]; simp
        · exact absurd (mem_dots.2 h1) h2
      · intro h1
        have e1 : d = m.2 := by simpa using h1
        subst e1
        exact ⟨Or.inl rfl, by simp [h]⟩

end Cm
end Go.Proofs.YtcmoajlcmeimiaaDoor
