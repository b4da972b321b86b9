/- What the ways of MarksTell share. -/
import Derived.Test.YtcmoajlcmeimiaaDoorWe
import Derived.Test.YtcmoajlcmeimiaaDoorWf
import Derived.Test.YtcmoajlcmeimiaaDoorNh
import Derived.Test.YtcmoajlcmeimiaaDoorNi
import Derived.Test.YtcmoajlcmeimiaaDoorNs
import Derived.Test.YtcmoajlcmeimiaaDoorKl
namespace Go.Proofs.YtcmoajlcmeimiaaDoor
namespace Wg
set_option linter.unusedVariables false
open Go.ChangeShapes Go.WideShapes Go.ChangeAt Go.RowKit Cm Ka Kb Na Nb Nc Nd Nse Nf Ng Nh Ni Nj Nk Np Nr Ns Wp Wa Wb Wc Wd We Wf Kt Kl
open La (bel bel_drew errV_zero errV_ne own_ge own_grow own_below)

/- what is asked of marks.Join -/
def JoinSays : Prop := ∀ (v : Value) (l : List Mk) (p : ByteArray) (vs : Value) (s : List Dt) (w : World), MksAt w v l → (∀ x ∈ l, x.1.size ≤ maxLen) → p.size ≤ maxLen → DtsAt w vs s →
  Calls Tryd.prog 20 #[v, .string p, vs] w fun e w' => ∃ v', e = .returned (.tuple #[v', errV (joinE l p s)]) ∧ MksAt w' v' (joinL l p s) ∧ Below w.heap.size w w'
theorem err_same (q : Int) (w : World) (hg : ET w) : Calls Tryd.prog 7 #[errV q, .int .i64 q] w fun e w' => e = .returned (.bool true) ∧ Below w.heap.size w w' := by
  refine (same_any q q w hg).mono ?_
  rintro e w' ⟨rfl, hb⟩
  exact ⟨by rw [beq_self_eq_true], hb⟩
theorem marks_same (v u : Value) (a : List Mk) (w : World) (h1 : MksAt w v a) (h2 : MksAt w u a) (hn : a.length ≤ 1048576) : Calls Tryd.prog 12 #[v, u] w fun e w' => e = .returned (.bool true) ∧ Below w.heap.size w w' := by
  have := marks_any v u a a w h1 h2 hn
  rw [decide_eq_true rfl] at this; exact this
theorem dots_same (v u : Value) (a : List Dt) (w : World) (h1 : DtsAt w v a) (h2 : DtsAt w u a) (hn : a.length ≤ 1048576) : Calls Tryd.prog 17 #[v, u] w fun e w' => e = .returned (.bool true) ∧ Below w.heap.size w w' := by
  have := dots_any v u a a w h1 h2 hn
  rw [decide_eq_true rfl] at this; exact this
theorem texts_same (v u : Value) (a : List ByteArray) (w : World) (h1 : StsAt w v a) (h2 : StsAt w u a) (hn : a.length ≤ 1048576) : Calls Tryd.prog 14 #[v, u] w fun e w' => e = .returned (.bool true) ∧ Below w.heap.size w w' := by
  have := texts_any v u a a w h1 h2 hn
  rw [decide_eq_true rfl] at this; exact this
def txt (l : List ByteArray) : List Value := l.map fun x => .string x
theorem txt_one (l : List ByteArray) : ∀ u ∈ txt l, u.oneCell' = true := by
  intro u hu
  obtain ⟨x, _, rfl⟩ := List.mem_map.1 hu
  rfl
theorem own_txt {w : World} {base : Nat} {t : TypeId} {v : Value} {n : Nat} {l : List ByteArray} (h : w.ownsRow base t 1 v n (txt l)) : StsAt w v l := by
  have hn : l.length = n := by have := h.1; unfold txt at this; rw [List.length_map] at this; omega
  rcases h.2 with ⟨rfl, h0⟩ | ⟨g, cap, cur, rfl, _, h2, h3, h4, h5, h6⟩
  · have : l = [] := List.eq_nil_of_length_eq_zero (by omega)
    subst this
    exact ⟨none, 0, rfl, Or.inl rfl⟩
  · refine ⟨some ⟨g, 0, none⟩, cap, by rw [hn], Or.inr ⟨g, 0, rfl, fun j hj => ?_⟩⟩
    have hu : (txt l)[j]? = some (.string (l.getD j noS)) := by
      unfold txt; rw [List.getElem?_map, List.getElem?_eq_getElem hj, List.getD_eq_getElem?_getD, List.getElem?_eq_getElem hj]; rfl
    rw [← h6, List.getElem?_take_of_lt (by omega)] at hu
    rw [Nat.zero_add]
    simp only [World.cell?, h2]
    simpa using hu
theorem own_appS {w : World} {base : Nat} {t : TypeId} {v : Value} {n m : Nat} {a b : List ByteArray} (hn : a.length = n) (hm : b.length = m) (h : w.ownsRow base t 1 v (n + m) (txt a ++ txt b)) : w.ownsRow base t 1 v (a ++ b).length (txt (a ++ b)) := by
  unfold txt at h ⊢; rw [List.length_append, List.map_append, hn, hm]; exact h
theorem cutE_wrong {l : List Mk} {m : Mk} (h0 : marksE l = 0) (h1 : markE m ≠ 0) : cutE l m = markE m ∧ cutL l m = [] := by
  have e : cutE l m = markE m := by unfold cutE; rw [if_neg (by simpa using h0), if_pos h1]
  exact ⟨e, by unfold cutL; rw [e, if_neg h1]⟩
theorem cutE_right {l : List Mk} {m : Mk} (h0 : marksE l = 0) (h1 : markE m = 0) : cutE l m = withM l m ∧ cutL l m = withL l m := by
  have e : cutE l m = withM l m := by unfold cutE; rw [if_neg (by simpa using h0), if_neg (by simpa using h1)]
  exact ⟨e, by unfold cutL withL; rw [e]⟩
theorem withL_len {l : List Mk} {m : Mk} (h : l.length ≤ 40) : (withL l m).length ≤ 41 := by
  unfold withL; split
  · rw [ins_length]; split <;> omega
  · simp
theorem compTo_len (l : List Mk) (k : Nat) : (compTo (names l) k).length ≤ k := compTo_le _ _
end Wg
end Go.Proofs.YtcmoajlcmeimiaaDoor
