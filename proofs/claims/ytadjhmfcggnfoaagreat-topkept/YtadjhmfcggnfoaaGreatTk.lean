/- TopKept's mathematics: what is lacked behind a crash is the rest. -/
import Derived.Test.YtadjhmfcggnfoaaGreatTg
import Derived.Test.YtadjhmfcggnfoaaGreatAa
import Derived.Test.YtadjhmfcggnfoaaGreatAb
namespace Go.Proofs.YtadjhmfcggnfoaaGreat
namespace Tk
set_option linter.unusedVariables false
open Cm Om Oa Hm Iq Aa Ab Tg

theorem ops_st : ∀ {l : List Ox} {S : Dq}, News S l → (l.foldl apS S).ops = S.ops ++ l
  | [], S, _ => by simp
  | o :: l, S, h => by
    show (l.foldl apS (apS S o)).ops = _
    rw [ops_st h.2, ops_new h.1, List.append_assoc]; rfl
theorem st_take (l : List Ox) (k : Nat) : st (l.take k) = run l k := rfl
theorem st_all (l : List Ox) : st l = run l l.length := by unfold run st; rw [List.take_length]
theorem inv_st (l : List Ox) : Inv (st l) := by rw [st_all]; exact run_inv l _
theorem news_at : ∀ {l : List Ox} {S : Dq} {k : Nat}, News S l → k < l.length → isNew ((l.take k).foldl apS S) (l.getD k oz) = true
  | o :: l, S, 0, h, _ => h.1
  | o :: l, S, k + 1, h, hk => by
    show isNew ((l.take k).foldl apS (apS S o)) (l.getD k oz) = true
    exact news_at h.2 (by simpa using hk)
theorem kn_mono : ∀ {l : List Ox} {S : Dq}, Inv S → ∀ u : Int, 1 ≤ u → u ≤ 8 → kn S u ≤ kn (l.foldl apS S) u
  | [], S, _, u, _, _ => Int.le_refl _
  | o :: l, S, I, u, h1, h2 => Int.le_trans (kn_up I u h1 h2) (kn_mono (l := l) (inv_ap I) u h1 h2)
theorem new_who {S : Dq} {o : Ox} (h : isNew S o = true) : opE o = 0 ∧ kn S o.1.1 + 1 = o.1.2 ∧ 1 ≤ o.1.1 ∧ o.1.1 ≤ 8 ∧ S.ops.length < 400 := by
  obtain ⟨h0, hk, hl, _⟩ := isNew_iff.1 h
  obtain ⟨d1, d2, _, _⟩ := dotE_iff.1 (opE_zero.1 h0).1
  exact ⟨h0, hk, d1, d2, hl⟩
theorem lack_rest {l : List Ox} (h : News d0 l) {k : Nat} (hk : k ≤ l.length) : lackL l (st (l.take k)).known = l.drop k := by
  have e : l = l.take k ++ l.drop k := (List.take_append_drop k l).symm
  have e2 : lackL l (st (l.take k)).known = lackL (l.take k) (st (l.take k)).known ++ lackL (l.drop k) (st (l.take k)).known := by
    conv => lhs; rw [e]
    unfold lackL; rw [List.filter_append, ← e]
  rw [e2]
  have p1 : lackL (l.take k) (st (l.take k)).known = [] := by
    unfold lackL
    rw [List.filter_eq_nil_iff]
    intro o ho hl
    have ho2 : o ∈ (st (l.take k)).ops := by
      have h9 := ops_st (news_take k h)
      have h8 : (st (l.take k)).ops = l.take k := by unfold st; rw [h9]; rfl
      rw [h8]; exact ho
    have h9 : o.1.2 ≤ kn (st (l.take k)) o.1.1 := known_mem (by rw [st_take]; exact run_inv l k) (by rw [st_take]; exact run_ord l k) o ho2
    unfold lacks at hl
    unfold kn at h9
    rw [decide_eq_true h9] at hl
    simp at hl
  have p2 : lackL (l.drop k) (st (l.take k)).known = l.drop k := by
    unfold lackL
    rw [List.filter_eq_self]
    intro o ho
    obtain ⟨j, hj, hjo⟩ := List.mem_iff_getElem.1 ho
    have hj2 : k + j < l.length := by rw [List.length_drop] at hj; omega
    have hn := news_at h hj2
    have ho3 : l.getD (k + j) oz = o := by
      rw [List.getD_eq_getElem?_getD, List.getElem?_eq_getElem hj2]
      rw [List.getElem_drop] at hjo
      exact hjo
    rw [ho3] at hn
    obtain ⟨_, hkn, u1, u2, _⟩ := new_who hn
    have hm : kn (st (l.take k)) o.1.1 ≤ kn ((l.take (k + j)).foldl apS d0) o.1.1 := by
      have e9 : l.take (k + j) = l.take k ++ (l.drop k).take j := by rw [List.take_add]
      rw [e9, List.foldl_append]
      exact kn_mono (by have := run_inv l k; exact this) _ u1 u2
    unfold lacks
    unfold kn at hm hkn
    rw [decide_eq_false (by omega)]
    rfl
  rw [p1, p2, List.nil_append]
theorem news_few {l : List Ox} (h : News d0 l) : l.length ≤ 400 := by
  rcases Nat.eq_zero_or_pos l.length with e | e
  · omega
  · have hn := news_at h (k := l.length - 1) (by omega)
    obtain ⟨_, _, _, _, hl⟩ := new_who hn
    have h9 := ops_st (news_take (l.length - 1) h)
    have h8 : ((l.take (l.length - 1)).foldl apS d0).ops = l.take (l.length - 1) := by rw [h9]; rfl
    rw [h8, List.length_take] at hl
    omega
theorem news_op {l : List Ox} (h : News d0 l) : ∀ o ∈ l, opE o = 0 := by
  intro o ho
  obtain ⟨j, hj, hjo⟩ := List.mem_iff_getElem.1 ho
  have hn := news_at h hj
  have ho3 : l.getD j oz = o := by rw [List.getD_eq_getElem?_getD, List.getElem?_eq_getElem hj]; exact hjo
  rw [ho3] at hn
  exact (new_who hn).1
theorem lack_ok {l : List Ox} (h : News d0 l) (k : Nat) (hv : Dm.vecE (st (l.take k)).known = 0) : lackE l (st (l.take k)).known = 0 := by
  unfold lackE packE
  rw [hv, if_neg (by decide), if_neg (by have := news_few h; omega)]
  exact firstE_zero.2 (news_op h)

/- a log that goes on, over the doc S; k ops were put -/
structure Go (s : Lg) (S : Dq) (k : Nat) : Prop where
  go : s.stopped = false
  fail : s.fail = none
  doc : Tg.doc s = S
  small : s.bytes ≤ 100000 * k
  few : s.ops.length ≤ k
theorem Go.put {s : Lg} {S : Dq} {k : Nat} (h : Go s S k) (o : Ox) {r : Nat} (hr : r ≤ 100000) : putN s o = isNew S o ∧ putE s o = apE S o ∧ Go (putS s o r) (apS S o) (k + 1) := by
  have hf : ¬ s.fail = some 0 := by rw [h.fail]; intro e; cases e
  have hs := h.small
  have hw := h.few
  cases hn : isNew S o with
  | true =>
    have hn2 : isNew (Tg.doc s) o = true := by rw [h.doc]; exact hn
    refine ⟨?_, ?_, ?_⟩
    · unfold putN; rw [h.go, hn2, decide_eq_false hf]; rfl
    · unfold putE; rw [h.go, if_neg (by decide), hn2, if_pos rfl, if_neg hf, new_zero hn]
    · unfold putS
      rw [h.go, if_neg (by decide), hn2, if_pos rfl, if_neg hf]
      refine ⟨rfl, ?_, ?_, by show s.bytes + r ≤ _; omega, by show (s.ops ++ [o]).length ≤ _; rw [List.length_append]; show s.ops.length + 1 ≤ _; omega⟩
      · show less s.fail = none; rw [h.fail]; rfl
      · show st (s.ops ++ [o]) = _
        unfold st
        rw [List.foldl_append]
        show apS (Tg.doc s) o = _
        rw [h.doc]
  | false =>
    have hn2 : isNew (Tg.doc s) o = false := by rw [h.doc]; exact hn
    have hS : apS S o = S := by unfold apS; rw [hn]; rfl
    refine ⟨?_, ?_, ?_⟩
    · unfold putN; rw [hn2]; simp
    · unfold putE; rw [h.go, if_neg (by decide), hn2, if_neg (by decide), h.doc]
    · unfold putS
      rw [h.go, if_neg (by decide), hn2, if_neg (by decide), hS]
      exact ⟨h.go, h.fail, h.doc, by omega, by omega⟩
theorem Go.sync {s : Lg} {S : Dq} {k : Nat} (h : Go s S k) : syncE s = 0 ∧ Go (syncS s) S k := by
  have hf : ¬ s.fail = some 0 := by rw [h.fail]; intro e; cases e
  refine ⟨?_, ?_⟩
  · unfold syncE; rw [h.go, if_neg (by decide), if_neg hf]
  · unfold syncS
    rw [h.go, if_neg (by decide), if_neg hf]
    exact ⟨rfl, by show less s.fail = none; rw [h.fail]; rfl, h.doc, h.small, h.few⟩

end Tk
end Go.Proofs.YtadjhmfcggnfoaaGreat
