/- Ops that wait, and those that are next: what a buffer does, plainly; ops that can all be done are all done, in whichever order they come. No program is named here. -/
import Derived.Test.YthalakfphecflaaGreatDoorJ9
namespace Go.Proofs.YthalakfphecflaaGreatDoor
namespace Ja
set_option linter.unusedVariables false
open Cm Om Hm

/- the op that waits at a dot; the others -/
def dotIn (L : List Ox) (d : Dt) : Option Ox := L.find? fun o => decide (o.1 = d)
def rid (d : Dt) : List Ox → List Ox
  | [] => []
  | o :: L => if d = o.1 then L else o :: rid d L
/- of n authors behind k, the first one that has an op which is next -/
def nextAt (S : Dq) (L : List Ox) : Nat → Nat → Option Ox
  | 0, _ => none
  | n + 1, k => match dotIn L ((k : Int) + 1, kn S ((k : Int) + 1) + 1) with | some o => some o | none => nextAt S L n (k + 1)
def nextO (S : Dq) (L : List Ox) : Option Ox := nextAt S L 8 0
def hasW (S : Dq) (L : List Ox) (o : Ox) : Bool := (dotIn L o.1).isSome || decide (o.1.2 ≤ kn S o.1.1)
theorem dotIn_some {L : List Ox} {d : Dt} {o : Ox} (h : dotIn L d = some o) : o ∈ L ∧ o.1 = d := by
  unfold dotIn at h
  exact ⟨List.mem_of_find?_eq_some h, by simpa using List.find?_some h⟩
theorem dotIn_none {L : List Ox} {d : Dt} (h : dotIn L d = none) : ∀ o ∈ L, o.1 ≠ d := by
  unfold dotIn at h
  intro o ho e
  have := List.find?_eq_none.1 h o ho
  simp [e] at this
theorem rid_perm {d : Dt} : ∀ {L : List Ox} {o : Ox}, dotIn L d = some o → (o :: rid d L).Perm L
  | [], o, h => by simp [dotIn] at h
  | x :: L, o, h => by
    unfold rid
    by_cases e : d = x.1
    · rw [if_pos e]
      have : dotIn (x :: L) d = some x := by unfold dotIn; rw [List.find?_cons_of_pos (by simp [e])]
      rw [this] at h
      injection h with h
      rw [h]
    · rw [if_neg e]
      have h2 : dotIn L d = some o := by
        unfold dotIn at h ⊢
        rwa [List.find?_cons_of_neg (by simp; exact fun e9 => e e9.symm)] at h
      exact (List.Perm.swap x o _).trans ((rid_perm h2).cons x)
theorem rid_sub (d : Dt) : ∀ L : List Ox, (rid d L).Sublist L
  | [] => List.Sublist.refl _
  | x :: L => by
    unfold rid
    by_cases e : d = x.1
    · rw [if_pos e]; exact List.sublist_cons_self x L
    · rw [if_neg e]; exact (rid_sub d L).cons_cons x
theorem nextAt_some {S : Dq} {L : List Ox} : ∀ {n k : Nat} {o : Ox}, nextAt S L n k = some o → ∃ j, k ≤ j ∧ j < k + n ∧ dotIn L ((j : Int) + 1, kn S ((j : Int) + 1) + 1) = some o
  | 0, k, o, h => by simp [nextAt] at h
  | n + 1, k, o, h => by
    unfold nextAt at h
    cases hq : dotIn L ((k : Int) + 1, kn S ((k : Int) + 1) + 1) with
    | some x => rw [hq] at h; injection h with h; exact ⟨k, Nat.le_refl _, by omega, by rw [hq, h]⟩
    | none =>
      rw [hq] at h
      obtain ⟨j, h1, h2, h3⟩ := nextAt_some h
      exact ⟨j, by omega, by omega, h3⟩
theorem nextAt_none {S : Dq} {L : List Ox} : ∀ {n k : Nat}, nextAt S L n k = none → ∀ j, k ≤ j → j < k + n → dotIn L ((j : Int) + 1, kn S ((j : Int) + 1) + 1) = none
  | 0, k, h, j, h1, h2 => by omega
  | n + 1, k, h, j, h1, h2 => by
    unfold nextAt at h
    cases hq : dotIn L ((k : Int) + 1, kn S ((k : Int) + 1) + 1) with
    | some x => rw [hq] at h; cases h
    | none =>
      rw [hq] at h
      by_cases e : j = k
      · rw [e]; exact hq
      · exact nextAt_none h j (by omega) (by omega)
theorem nextO_some {S : Dq} {L : List Ox} {o : Ox} (h : nextO S L = some o) : dotIn L o.1 = some o ∧ o ∈ L ∧ 1 ≤ o.1.1 ∧ o.1.1 ≤ 8 ∧ kn S o.1.1 + 1 = o.1.2 := by
  obtain ⟨j, _, h2, h3⟩ := nextAt_some h
  obtain ⟨h4, h5⟩ := dotIn_some h3
  rw [h5]
  exact ⟨h3, h4, by simp; omega, by simp; omega, rfl⟩
theorem nextO_none {S : Dq} {L : List Ox} (h : nextO S L = none) : ∀ o ∈ L, 1 ≤ o.1.1 → o.1.1 ≤ 8 → kn S o.1.1 + 1 ≠ o.1.2 := by
  intro o ho h1 h2 e
  have h3 := nextAt_none h (o.1.1 - 1).toNat (by omega) (by omega)
  rw [show (((o.1.1 - 1).toNat : Nat) : Int) + 1 = o.1.1 by omega, e] at h3
  exact dotIn_none h3 o ho rfl
/- what stays right of those that wait -/
structure Wt (L : List Ox) : Prop where
  right : ∀ o ∈ L, opE o = 0
  apart : (L.map (·.1)).Nodup
  few : L.length ≤ 400
theorem Wt.nil : Wt [] := ⟨fun o ho => by simp at ho, by simp, by simp⟩
theorem Wt.rid {L : List Ox} (h : Wt L) (d : Dt) : Wt (rid d L) :=
  ⟨fun o ho => h.right o ((rid_sub d L).subset ho), h.apart.sublist ((rid_sub d L).map _), Nat.le_trans (rid_sub d L).length_le h.few⟩
theorem Wt.push {S : Dq} {L : List Ox} {o : Ox} (h : Wt L) (h0 : opE o = 0) (hh : hasW S L o = false) (hf : ¬ 400 ≤ L.length) : Wt (L ++ [o]) := by
  unfold hasW at hh
  simp only [Bool.or_eq_false_iff] at hh
  refine ⟨fun x hx => ?_, ?_, by simp; omega⟩
  · rcases List.mem_append.1 hx with e | e
    · exact h.right x e
    · rw [List.mem_singleton.1 e]; exact h0
  · rw [List.map_append, List.nodup_append]
    refine ⟨h.apart, by simp, fun a ha b hb => ?_⟩
    obtain ⟨x, hx, rfl⟩ := List.mem_map.1 ha
    have hb2 : b = o.1 := by simpa using hb
    rw [hb2]
    have hn : dotIn L o.1 = none := by
      cases hq : dotIn L o.1 with
      | none => rfl
      | some y => rw [hq] at hh; simp at hh
    exact dotIn_none hn x hx
/- and how many wait, at most, behind one more -/
/- the order of dots; those that wait, in it -/
/- every dot of a doc that was reached has its op -/
theorem seq_all : ∀ {l : List Ox} {k : Int → Int}, Seq k l → ∀ (w n : Int), k w < n → n ≤ l.foldl up k w → ∃ o ∈ l, o.1 = (w, n)
  | [], k, _, w, n, h1, h2 => by simp at h2; omega
  | x :: l, k, hs, w, n, h1, h2 => by
    by_cases e : up k x w < n
    · obtain ⟨o, ho, h3⟩ := seq_all hs.2 w n e h2
      exact ⟨o, List.mem_cons_of_mem _ ho, h3⟩
    · refine ⟨x, List.mem_cons_self .., ?_⟩
      unfold up at e
      by_cases e2 : w = x.1.1
      · rw [if_pos e2] at e
        have := hs.1
        rw [e2] at h1
        have : n = x.1.2 := by omega
        rw [e2, this]
      · rw [if_neg e2] at e; omega
theorem ord_all {S : Dq} (O : Ord S) {w n : Int} (hw : 1 ≤ w ∧ w ≤ 8) (h1 : 1 ≤ n) (h2 : n ≤ kn S w) : ∃ o ∈ S.ops, o.1 = (w, n) :=
  seq_all O.seq w n (by omega) (by rw [← O.kn w hw.1 hw.2]; exact h2)
theorem seq_nodup : ∀ {l : List Ox} {k : Int → Int}, Seq k l → (l.map (·.1)).Nodup
  | [], _, _ => by simp
  | x :: l, k, hs => by
    rw [List.map_cons, List.nodup_cons]
    refine ⟨fun hm => ?_, seq_nodup hs.2⟩
    obtain ⟨y, hy, e⟩ := List.mem_map.1 hm
    have h1 := seq_mono hs.2 y hy
    unfold up at h1
    rw [e] at h1
    simp at h1

/- a doc S took all; of its ops T has taken some, L wait, R are still to come -/
structure Pre (S T : Dq) (L R : List Ox) : Prop where
  invS : Inv S
  ordS : Ord S
  inv : Inv T
  ord : Ord T
  perm : (T.ops ++ (L ++ R)).Perm S.ops
  few : S.ops.length ≤ 60
theorem Pre.nodup {S T : Dq} {L R : List Ox} (h : Pre S T L R) : ((T.ops ++ (L ++ R)).map (·.1)).Nodup :=
  (h.perm.map _).nodup_iff.2 (seq_nodup h.ordS.seq)
theorem Pre.mem {S T : Dq} {L R : List Ox} (h : Pre S T L R) {o : Ox} (ho : o ∈ L ∨ o ∈ R) : o ∈ S.ops ∧ opE o = 0 ∧ (1 ≤ o.1.1 ∧ o.1.1 ≤ 8) ∧ 1 ≤ o.1.2 := by
  have hm : o ∈ S.ops := h.perm.mem_iff.1 (List.mem_append_right _ (List.mem_append.2 ho))
  have h0 := h.invS.right o hm
  obtain ⟨d1, d2, d3, d4⟩ := dotE_iff.1 (opE_zero.1 h0).1
  exact ⟨hm, h0, ⟨d1, d2⟩, d3⟩
theorem Pre.len {S T : Dq} {L R : List Ox} (h : Pre S T L R) : T.ops.length + (L.length + R.length) = S.ops.length := by
  have := h.perm.length_eq
  simpa using this
/- what waits or is still to come is not known -/
theorem Pre.fresh {S T : Dq} {L R : List Ox} (h : Pre S T L R) {o : Ox} (ho : o ∈ L ∨ o ∈ R) : ¬ o.1.2 ≤ kn T o.1.1 := by
  intro hk
  obtain ⟨_, _, hw, hn⟩ := h.mem ho
  obtain ⟨x, hx, hxe⟩ := ord_all h.ord hw hn hk
  have hnd := h.nodup
  rw [List.map_append, List.nodup_append] at hnd
  refine hnd.2.2 x.1 (List.mem_map.2 ⟨x, hx, rfl⟩) o.1 (List.mem_map.2 ⟨o, List.mem_append.2 ho, rfl⟩) hxe
theorem Pre.clash {S T : Dq} {L R : List Ox} (h : Pre S T L R) {o : Ox} (ho : o ∈ L) : doE T o ≠ 7 := by
  obtain ⟨hm, h0, _, _⟩ := h.mem (Or.inl ho)
  intro h7
  obtain ⟨e1, e2, e3, e4⟩ := opE_zero.1 h0
  have hw : Bm.withE T.book o.2.2.1 = 0 := Bm.withE_zero.2 ⟨h.inv.book, e3⟩
  have hp : Bm.putE T.book o.2.2.1 ≠ 7 := by unfold Bm.putE; split <;> simp
  unfold doE at h7
  by_cases t1 : o.2.1 = 1
  · rw [if_pos t1] at h7
    unfold Bm.writeE Bm.wrE at h7
    have hl := (lawOf_zero.1 e4).1 t1
    have hL : Bm.isL o.2.2.2.1 = true := by unfold Bm.isL; simp; omega
    rw [if_neg (by simpa using hw), if_neg (by rw [hL]; decide)] at h7
    by_cases hc : Bm.clash (Bm.leafAt T.book o.2.2.1) o.2.2.2.1 = true
    · unfold Bm.clash at hc
      simp only [Bool.and_eq_true, bne_iff_ne, ne_eq] at hc
      obtain ⟨x, hx, x1, x2⟩ := h.inv.wr' _ hc.1
      have q1 := h.inv.wr x hx x1
      have q2 := h.invS.wr x (h.perm.mem_iff.1 (List.mem_append_left _ hx)) x1
      have q3 := h.invS.wr o hm t1
      rw [x2] at q1 q2
      exact hc.2 (by rw [q1, ← q2, q3])
    · rw [if_neg hc] at h7; exact hp h7
  · rw [if_neg t1] at h7
    by_cases t2 : o.2.1 = 2
    · rw [if_pos t2] at h7
      unfold Bm.strikeE at h7
      rw [if_neg (by simpa using hw)] at h7
      exact hp h7
    · rw [if_neg t2] at h7
      split at h7
      · split at h7
        · cases h7
        · unfold withM at h7
          split at h7
          · cases h7
          · split at h7
            · cases h7
            · cases h7
      · cases h7
theorem Pre.start {S : Dq} (I : Inv S) (O : Ord S) (hf : S.ops.length ≤ 60) : Pre S d0 [] S.ops :=
  ⟨I, O, inv_zero, ord_zero, List.Perm.refl _, hf⟩
theorem Pre.step {S T : Dq} {L R : List Ox} {o : Ox} (h : Pre S T L R) (hn : nextO T L = some o) (hw : isNew T o = true) : Pre S (apS T o) (rid o.1 L) R := by
  refine ⟨h.invS, h.ordS, inv_ap h.inv, ord_ap h.inv h.ord, ?_, h.few⟩
  have hops : (apS T o).ops = T.ops ++ [o] := by unfold apS; rw [hw, if_pos rfl]; rfl
  rw [hops, List.append_assoc]
  refine List.Perm.trans (List.Perm.append_left _ ?_) h.perm
  show (o :: (rid o.1 L ++ R)).Perm (L ++ R)
  exact (rid_perm (nextO_some hn).1).append_right R
/- one more is put: it is taken, or nothing more is asked -/
/- in the end none waits -/
theorem min_mem : ∀ (L : List Ox), L ≠ [] → ∃ o ∈ L, ∀ x ∈ L, o.1.2 ≤ x.1.2
  | [], h => absurd rfl h
  | [x], _ => ⟨x, by simp, fun y hy => by rw [List.mem_singleton.1 hy]; exact Int.le_refl _⟩
  | x :: y :: L, _ => by
    obtain ⟨o, ho, hm⟩ := min_mem (y :: L) (by simp)
    by_cases e : o.1.2 ≤ x.1.2
    · exact ⟨o, List.mem_cons_of_mem _ ho, fun z hz => by
        rcases List.mem_cons.1 hz with rfl | hz
        · exact e
        · exact hm z hz⟩
    · exact ⟨x, List.mem_cons_self .., fun z hz => by
        rcases List.mem_cons.1 hz with rfl | hz
        · exact Int.le_refl _
        · have := hm z hz; omega⟩
theorem Pre.none {S T : Dq} {L : List Ox} (h : Pre S T L []) (hn : nextO T L = none) : L = [] := by
  cases hL : L with
  | nil => rfl
  | cons y ys =>
    exfalso
    obtain ⟨o, ho, hmin⟩ := min_mem L (by rw [hL]; simp)
    obtain ⟨hm, h0, hw, h1⟩ := h.mem (Or.inl ho)
    have hf := h.fresh (Or.inl ho)
    refine nextO_none hn o ho hw.1 hw.2 ?_
    by_cases e1 : o.1.2 = 1
    · have hk0 : 0 ≤ kn T o.1.1 := by rw [h.inv.kno _ hw.1 hw.2]; omega
      omega
    · have hkS := known_mem h.invS h.ordS o hm
      obtain ⟨x, hx, hxe⟩ := ord_all h.ordS hw (n := o.1.2 - 1) (by omega) (by omega)
      have hx2 := h.perm.mem_iff.2 hx
      have x2 : x.1.2 = o.1.2 - 1 := by rw [hxe]
      have x1 : x.1.1 = o.1.1 := by rw [hxe]
      rcases List.mem_append.1 hx2 with hx2 | hx2
      · have := known_mem h.inv h.ord x hx2
        rw [x1] at this
        omega
      · rw [List.append_nil] at hx2
        have := hmin x hx2
        omega
theorem Pre.all {S T : Dq} (h : Pre S T [] []) : S.book = T.book ∧ S.marks = T.marks ∧ S.known = T.known ∧ T.ops.length = S.ops.length := by
  have hp := h.perm
  rw [List.append_nil, List.append_nil] at hp
  obtain ⟨h1, h2, h3⟩ := meet h.invS h.inv hp.symm
  exact ⟨h1, h2, h3, hp.length_eq⟩

end Ja
end Go.Proofs.YthalakfphecflaaGreatDoor
