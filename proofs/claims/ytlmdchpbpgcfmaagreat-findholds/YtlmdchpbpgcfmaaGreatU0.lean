import Derived.Test.YtlmdchpbpgcfmaaGreatJ9
import Derived.Test.YtlmdchpbpgcfmaaGreatP1
/- The plain mathematics of edits: which ops an edit is, and what they come to. No program is named here. -/
namespace Go.Proofs.YtlmdchpbpgcfmaaGreat
namespace Um
set_option linter.unusedVariables false
open Cm Om Hm
open Op (bytesLess)
open Bm (Leaf none0)

/- the places of what is seen -/
def seenP (l : List Leaf) : List ByteArray := (l.filter Bm.isS).map (·.1)
theorem seenP_append (a b : List Leaf) : seenP (a ++ b) = seenP a ++ seenP b := by unfold seenP; rw [List.filter_append, List.map_append]
theorem seenP_cons (x : Leaf) (l : List Leaf) : seenP (x :: l) = if Bm.isS x then x.1 :: seenP l else seenP l := by
  unfold seenP; rw [List.filter_cons]; cases Bm.isS x <;> rfl
theorem seenP_len (l : List Leaf) : (seenP l).length = (Bm.text l).length := by unfold seenP Bm.text; simp
theorem seenP_le (l : List Leaf) : (seenP l).length ≤ l.length := by rw [seenP_len]; exact Bm.text_len_le l
theorem take_leaf {l : List Leaf} {k : Nat} (hk : k < l.length) : l.take (k + 1) = l.take k ++ [l.getD k none0] := by
  rw [List.take_add_one, List.getD_eq_getElem?_getD, List.getElem?_eq_getElem hk]; rfl
theorem seenP_yes {l : List Leaf} {k : Nat} (hk : k < l.length) (h : Bm.isS (l.getD k none0) = true) : seenP (l.take (k + 1)) = seenP (l.take k) ++ [(l.getD k none0).1] := by
  rw [take_leaf hk, seenP_append, seenP_cons, h, if_pos rfl]; rfl
theorem seenP_no {l : List Leaf} {k : Nat} (hk : k < l.length) (h : Bm.isS (l.getD k none0) = false) : seenP (l.take (k + 1)) = seenP (l.take k) := by
  rw [take_leaf hk, seenP_append, seenP_cons, h]; exact List.append_nil _
theorem seenP_mem {l : List Leaf} {p : ByteArray} (h : p ∈ seenP l) : ∃ x ∈ l, Bm.isS x = true ∧ x.1 = p := by
  unfold seenP at h
  obtain ⟨x, hx, e⟩ := List.mem_map.1 h
  exact ⟨x, (List.mem_filter.1 hx).1, (List.mem_filter.1 hx).2, e⟩
theorem split_seen : ∀ (l : List Leaf) (r : Nat), r < (seenP l).length → ∃ A x B, l = A ++ x :: B ∧ Bm.isS x = true ∧ (seenP A).length = r
  | [], r, h => by simp [seenP] at h
  | y :: l, r, h => by
    rw [seenP_cons] at h
    cases hy : Bm.isS y with
    | true =>
      rw [hy, if_pos rfl] at h
      cases r with
      | zero => exact ⟨[], y, l, rfl, hy, rfl⟩
      | succ r =>
        obtain ⟨A, x, B, rfl, hx, hr⟩ := split_seen l r (by simpa using h)
        exact ⟨y :: A, x, B, rfl, hx, by rw [seenP_cons, hy, if_pos rfl, List.length_cons, hr]⟩
    | false =>
      rw [hy] at h
      obtain ⟨A, x, B, rfl, hx, hr⟩ := split_seen l r (by simpa using h)
      exact ⟨y :: A, x, B, rfl, hx, by rw [seenP_cons, hy]; simpa using hr⟩

/- the leaf that stands next behind the letter ahead of an offset; the places on both sides -/
def nxt (l : List Leaf) (off : Nat) : Nat := if off = 0 then 0 else (Bm.nth l 0 ((off : Int) - 1)).toNat + 1
def leftP (l : List Leaf) (off : Nat) : ByteArray := if off = 0 then ⟨#[]⟩ else (seenP l).getD (off - 1) ⟨#[]⟩
def rightP (l : List Leaf) (off : Nat) : ByteArray := if nxt l off < l.length then (l.getD (nxt l off) none0).1 else ⟨#[]⟩
theorem emp_list : (⟨#[]⟩ : ByteArray).toList = [] := ByteArray.toList_mk []
theorem at_parts {A B : List Leaf} {x : Leaf} (hx : Bm.isS x = true) : Bm.nth (A ++ x :: B) 0 ((seenP A).length : Int) = (A.length : Int) ∧ (A ++ x :: B).getD A.length none0 = x ∧ (seenP (A ++ x :: B)).getD (seenP A).length ⟨#[]⟩ = x.1 := by
  refine ⟨?_, ?_, ?_⟩
  · rw [seenP_len, Bm.nth_at hx A 0]; simp
  · rw [List.getD_eq_getElem?_getD, List.getElem?_append_right (Nat.le_refl _)]; simp
  · rw [seenP_append, seenP_cons, hx, if_pos rfl, List.getD_eq_getElem?_getD, List.getElem?_append_right (Nat.le_refl _)]; simp
structure CutOff (l : List Leaf) (off : Nat) : Prop where
  le : nxt l off ≤ l.length
  len : (seenP (l.take (nxt l off))).length = off
  pos : 0 < off → 0 < nxt l off ∧ (l.getD (nxt l off - 1) none0).1 = leftP l off ∧ Bm.isS (l.getD (nxt l off - 1) none0) = true
theorem cut_off {l : List Leaf} {off : Nat} (h : off ≤ (seenP l).length) : CutOff l off := by
  cases off with
  | zero => exact ⟨by simp [nxt], by simp [nxt, seenP], fun h => absurd h (by omega)⟩
  | succ r =>
    obtain ⟨A, x, B, rfl, hx, hr⟩ := split_seen l r (by omega)
    obtain ⟨h1, h2, h3⟩ := at_parts (A := A) (B := B) hx
    rw [hr] at h1 h3
    have hn : nxt (A ++ x :: B) (r + 1) = A.length + 1 := by
      unfold nxt
      rw [if_neg (by omega), show (((r + 1 : Nat) : Int) - 1) = (r : Int) by omega, h1]; simp
    refine ⟨by rw [hn]; simp, ?_, fun _ => ?_⟩
    · rw [hn, show A ++ x :: B = (A ++ [x]) ++ B by simp, List.take_left' (by simp), seenP_append, seenP_cons, hx, if_pos rfl]
      rw [List.length_append, hr]; simp [seenP]
    · rw [hn, Nat.add_sub_cancel, h2]
      refine ⟨by omega, ?_, hx⟩
      unfold leftP
      rw [if_neg (by omega), Nat.add_sub_cancel, h3]
theorem chk_ne {p : List UInt8} (h : Pm.chk p = 0) : p ≠ [] := by
  intro e; have := (Bm.chk_pos h).1; rw [e] at this; simp at this
/- a place between the two sides is in no leaf, and would stand just there -/
theorem fresh {l : List Leaf} (hb : Bm.bookE l = 0) {off : Nat} (h : off ≤ (seenP l).length) {p : List UInt8} (h1 : off = 0 ∨ bytesLess (leftP l off).toList p = true) (h2 : (rightP l off).toList = [] ∨ bytesLess p (rightP l off).toList = true) : Bm.ahd l p = nxt l off ∧ Bm.has l p = false := by
  obtain ⟨_, hlf, hr⟩ := Bm.bookE_zero.1 hb
  obtain ⟨c1, c2, c3⟩ := cut_off h
  have lo : ∀ j, j < nxt l off → bytesLess (l.getD j none0).1.toList p = true := by
    intro j hj
    have h0 : off ≠ 0 := fun e => by rw [e] at hj; simp [nxt] at hj
    obtain ⟨d1, d2, _⟩ := c3 (by omega)
    have h9 : bytesLess (leftP l off).toList p = true := by rcases h1 with e | e; exact absurd e h0; exact e
    rw [← d2] at h9
    rcases Nat.lt_or_eq_of_le (show j ≤ nxt l off - 1 by omega) with e | e
    · exact Bm.less_trans (Bm.rise_lt hr e (by omega)) h9
    · rw [e]; exact h9
  have hi : ∀ j, nxt l off ≤ j → j < l.length → bytesLess p (l.getD j none0).1.toList = true := by
    intro j hj hl
    have e : rightP l off = (l.getD (nxt l off) none0).1 := by unfold rightP; rw [if_pos (by omega)]
    have h9 : bytesLess p (l.getD (nxt l off) none0).1.toList = true := by
      rw [e] at h2
      rcases h2 with q | q
      · exact absurd q (chk_ne (Bm.leafE_zero.1 (hlf _ (Bm.getD_mem (by omega)))).1)
      · exact q
    rcases Nat.lt_or_eq_of_le hj with q | q
    · exact Bm.less_trans h9 (Bm.rise_lt hr q hl)
    · rw [← q]; exact h9
  refine ⟨Bm.ahead_eq hr c1 lo (fun j hj hl => Bm.less_asymm (hi j hj hl)), ?_⟩
  cases hh : Bm.has l p with
  | false => rfl
  | true =>
    obtain ⟨x, hx, rfl⟩ := (Bm.has_iff hr).1 hh
    obtain ⟨j, hj, rfl⟩ := Bm.mem_getD hx
    rcases Nat.lt_or_ge j (nxt l off) with q | q
    · have := lo j q; rw [Bm.less_irrefl] at this; cases this
    · have := hi j q hj; rw [Bm.less_irrefl] at this; cases this

/- places one behind the other -/
def stepP (a b : ByteArray) (who : Int) : ByteArray := ⟨(Pm.betText a.toList b.toList who).toArray⟩
def nthP (a b : ByteArray) (who : Int) : Nat → ByteArray
  | 0 => a
  | k + 1 => stepP (nthP a b who k) b who
def rowE (a b : ByteArray) (who : Int) : Nat → Int
  | 0 => 0
  | k + 1 => if rowE a b who k ≠ 0 then rowE a b who k else Pm.betErr (nthP a b who k).toList b.toList who
theorem row_all {a b : ByteArray} {who : Int} : ∀ {n : Nat}, rowE a b who n = 0 → ∀ k, k < n → Pm.betErr (nthP a b who k).toList b.toList who = 0
  | 0, _, k, hk => absurd hk (by omega)
  | n + 1, h, k, hk => by
    unfold rowE at h
    by_cases h0 : rowE a b who n = 0
    · rw [if_neg (by simpa using h0)] at h
      rcases Nat.lt_or_eq_of_le (show k ≤ n by omega) with e | e
      · exact row_all h0 k e
      · rw [e]; exact h
    · rw [if_pos h0] at h; exact absurd h h0
theorem row_go {a b : ByteArray} {who : Int} {k : Nat} (h : rowE a b who k = 0) : rowE a b who (k + 1) = Pm.betErr (nthP a b who k).toList b.toList who := by
  show (if rowE a b who k ≠ 0 then _ else _) = _
  rw [if_neg (by simpa using h)]
theorem row_stop {a b : ByteArray} {who : Int} {k : Nat} (h : rowE a b who k ≠ 0) : ∀ n, k ≤ n → rowE a b who n = rowE a b who k := by
  intro n hn
  induction n with
  | zero => rw [show k = 0 by omega]
  | succ n ih =>
    rcases Nat.lt_or_eq_of_le hn with e | e
    · have i := ih (by omega)
      show (if rowE a b who n ≠ 0 then _ else _) = _
      rw [if_pos (by rw [i]; exact h)]; exact i
    · rw [e]
structure Stp (a b : ByteArray) (who : Int) : Prop where
  chk : Pm.chk (stepP a b who).toList = 0
  up : bytesLess a.toList (stepP a b who).toList = true
  down : b.toList = [] ∨ bytesLess (stepP a b who).toList b.toList = true
  whose : Pm.whoOf (stepP a b who).toList = who
theorem step_ok {a b : ByteArray} {who : Int} (h : Pm.betErr a.toList b.toList who = 0) : Stp a b who := by
  obtain ⟨t, m, e, _, _, hm, _⟩ := Pm.made_of h
  have el : (stepP a b who).toList = t ++ [UInt8.ofNat (97 + who.toNat)] := by unfold stepP; rw [toList_mk, e]
  refine ⟨by rw [el]; exact Pm.chk_made hm, ?_, ?_, by rw [el]; exact Pm.whoOf_made t who hm.who1 hm.who8⟩
  · have := Pm.above_made hm [UInt8.ofNat (97 + who.toNat)]
    rw [Bool.or_eq_false_iff, beq_eq_false_iff_ne] at this
    rw [el]; exact Bm.less_total this.1 this.2
  · cases hb : b.toList with
    | nil => exact Or.inl rfl
    | cons c r =>
      right
      have := Pm.below_made hm [UInt8.ofNat (97 + who.toNat)] (by rw [hb]; rfl)
      rw [el, ← hb]; exact this
theorem nth_chk {a b : ByteArray} {who : Int} {n : Nat} (h : rowE a b who n = 0) {k : Nat} (hk : k < n) : Stp (nthP a b who k) b who := step_ok (row_all h k hk)
theorem nth_rise {a b : ByteArray} {who : Int} {n : Nat} (h : rowE a b who n = 0) : ∀ (k : Nat), k ≤ n → ∀ j, j < k → bytesLess (nthP a b who j).toList (nthP a b who k).toList = true
  | 0, _, j, hj => absurd hj (by omega)
  | k + 1, hk, j, hj => by
    have h1 := (nth_chk h (k := k) (by omega)).up
    rcases Nat.lt_or_eq_of_le (show j ≤ k by omega) with e | e
    · exact Bm.less_trans (nth_rise h k (by omega) j e) h1
    · rw [e]; exact h1
theorem nth_small {a b : ByteArray} {who : Int} {n : Nat} (h : rowE a b who n = 0) (ha : a.size ≤ 12) : ∀ k, k ≤ n → (nthP a b who k).size ≤ 12
  | 0, _ => ha
  | k + 1, hk => by
    have := (Bm.chk_pos (nth_chk h (k := k) (by omega)).chk).2
    rw [len_eq] at this; exact this

/- the ops of an insert -/
def okText (t : ByteArray) : Bool := t.toList.all fun c => Bm.isL (c.toNat : Int)
def textE (t : ByteArray) : Int := if 200 < t.size then 4 else if okText t = false then 1 else 0
def aroundE (l : List Leaf) (off : Int) : Int := if off < 0 ∨ ((seenP l).length : Int) < off then 1 else 0
def insE (S : Dq) (who off : Int) (t : ByteArray) : Int :=
  if Pm.isWho who = false then 1 else if textE t ≠ 0 then textE t else if aroundE S.book off ≠ 0 then 1 else rowE (leftP S.book off.toNat) (rightP S.book off.toNat) who t.size
def insO (a b : ByteArray) (who n : Int) (t : ByteArray) (k : Nat) : Ox := ((who, n + 1 + k), 1, nthP a b who (k + 1), ((t.toList.getD k 0).toNat : Int), [])
def insL (S : Dq) (who off : Int) (t : ByteArray) : List Ox := (List.range t.size).map fun k => insO (leftP S.book off.toNat) (rightP S.book off.toNat) who (kn S who) t k
theorem insL_len (S : Dq) (who off : Int) (t : ByteArray) : (insL S who off t).length = t.size := by unfold insL; simp
structure InsOk (S : Dq) (who off : Int) (t : ByteArray) : Prop where
  who1 : 1 ≤ who
  who8 : who ≤ 8
  few : t.size ≤ 200
  lets : okText t = true
  off0 : 0 ≤ off
  off1 : off ≤ (seenP S.book).length
  row : rowE (leftP S.book off.toNat) (rightP S.book off.toNat) who t.size = 0
theorem textE_zero {t : ByteArray} : textE t = 0 ↔ t.size ≤ 200 ∧ okText t = true := by
  unfold textE
  by_cases h : 200 < t.size
  · rw [if_pos h]; omega
  · rw [if_neg h]
    cases h2 : okText t <;> simp <;> omega
theorem aroundE_zero {l : List Leaf} {off : Int} : aroundE l off = 0 ↔ 0 ≤ off ∧ off ≤ (seenP l).length := by
  unfold aroundE
  by_cases h : off < 0 ∨ ((seenP l).length : Int) < off
  · rw [if_pos h]; omega
  · rw [if_neg h]; omega
theorem insE_zero {S : Dq} {who off : Int} {t : ByteArray} : insE S who off t = 0 ↔ InsOk S who off t := by
  unfold insE
  cases hw : Pm.isWho who with
  | false =>
    rw [if_pos rfl]
    refine ⟨fun h => by omega, fun h => ?_⟩
    have : Pm.isWho who = true := by unfold Pm.isWho; simp [h.who1, h.who8]
    rw [hw] at this; cases this
  | true =>
    have hwho : 1 ≤ who ∧ who ≤ 8 := by simpa [Pm.isWho] using hw
    rw [if_neg (by simp)]
    by_cases ht : textE t = 0
    · rw [if_neg (by simpa using ht)]
      by_cases ha : aroundE S.book off = 0
      · rw [if_neg (by simpa using ha)]
        obtain ⟨t1, t2⟩ := textE_zero.1 ht
        obtain ⟨a1, a2⟩ := aroundE_zero.1 ha
        exact ⟨fun h => ⟨hwho.1, hwho.2, t1, t2, a1, a2, h⟩, fun h => h.row⟩
      · rw [if_pos ha]
        exact ⟨fun h => by omega, fun h => absurd (aroundE_zero.2 ⟨h.off0, h.off1⟩) ha⟩
    · rw [if_pos ht]
      exact ⟨fun h => absurd h ht, fun h => absurd (textE_zero.2 ⟨h.few, h.lets⟩) ht⟩
theorem left_small {S : Dq} (hb : Bm.bookE S.book = 0) (off : Nat) : (leftP S.book off).size ≤ 12 ∧ (rightP S.book off).size ≤ 12 ∧ (off ≤ (seenP S.book).length → off ≠ 0 → Pm.chk (leftP S.book off).toList = 0) ∧ ((rightP S.book off).toList = [] ∨ Pm.chk (rightP S.book off).toList = 0) := by
  obtain ⟨_, hlf, hr⟩ := Bm.bookE_zero.1 hb
  have hx : ∀ x ∈ S.book, x.1.size ≤ 12 ∧ Pm.chk x.1.toList = 0 := fun x hx => by
    have h1 := (Bm.leafE_zero.1 (hlf x hx)).1
    have := (Bm.chk_pos h1).2
    rw [len_eq] at this; exact ⟨this, h1⟩
  have hleft : off ≠ 0 → off - 1 < (seenP S.book).length → (leftP S.book off).size ≤ 12 ∧ Pm.chk (leftP S.book off).toList = 0 := fun h0 h1 => by
    unfold leftP
    rw [if_neg h0, List.getD_eq_getElem?_getD, List.getElem?_eq_getElem h1]
    obtain ⟨x, hm, _, e⟩ := seenP_mem (List.getElem_mem h1)
    rw [Option.getD_some, ← e]; exact hx x hm
  refine ⟨?_, ?_, fun h h0 => (hleft h0 (by omega)).2, ?_⟩
  · by_cases h0 : off = 0
    · unfold leftP; rw [if_pos h0]; exact Nat.zero_le _
    · by_cases h1 : off - 1 < (seenP S.book).length
      · exact (hleft h0 h1).1
      · unfold leftP
        rw [if_neg h0, List.getD_eq_getElem?_getD, List.getElem?_eq_none (by omega)]; exact Nat.zero_le _
  · unfold rightP
    by_cases h : nxt S.book off < S.book.length
    · rw [if_pos h]; exact (hx _ (Bm.getD_mem h)).1
    · rw [if_neg h]; exact Nat.zero_le _
  · unfold rightP
    by_cases h : nxt S.book off < S.book.length
    · rw [if_pos h]; exact Or.inr (hx _ (Bm.getD_mem h)).2
    · rw [if_neg h]; exact Or.inl emp_list

/- the ops of a delete, a split, a fuse -/
def delE (S : Dq) (who a b : Int) : Int := if Pm.isWho who = false then 1 else if a < 0 ∨ b < a ∨ ((seenP S.book).length : Int) < b then 1 else 0
def delO (l : List ByteArray) (who n : Int) (k : Nat) : Ox := ((who, n + 1 + k), 2, l.getD k ⟨#[]⟩, 0, [])
def delP (S : Dq) (a b : Int) : List ByteArray := ((seenP S.book).take b.toNat).drop a.toNat
def delL (S : Dq) (who a b : Int) : List Ox := (List.range (b - a).toNat).map fun k => delO (delP S a b) who (kn S who) k
def atE (S : Dq) (who off : Int) : Int := if Pm.isWho who = false then 1 else if off < 0 ∨ ((seenP S.book).length : Int) ≤ off then 1 else 0
def atP (S : Dq) (off : Int) : ByteArray := (seenP S.book).getD off.toNat ⟨#[]⟩
def splL (S : Dq) (who off : Int) : List Ox := [((who, kn S who + 1), 3, atP S off, 0, [])]
def fusE (S : Dq) (who off : Int) : Int := if atE S who off ≠ 0 then atE S who off else if dotsAt S.marks (atP S off) = [] then 5 else 0
def fusL (S : Dq) (who off : Int) : List Ox := [((who, kn S who + 1), 4, atP S off, 0, dotsAt S.marks (atP S off))]

/- ops that are done one behind the other, up to the first error -/
def runE : Dq → List Ox → Int
  | _, [] => 0
  | S, o :: r => if apE S o ≠ 0 then apE S o else runE (apS S o) r
def runS : Dq → List Ox → Dq
  | S, [] => S
  | S, o :: r => if apE S o ≠ 0 then S else runS (apS S o) r
theorem run_append : ∀ (L M : List Ox) (S : Dq), runE S (L ++ M) = (if runE S L ≠ 0 then runE S L else runE (runS S L) M) ∧ runS S (L ++ M) = (if runE S L ≠ 0 then runS S L else runS (runS S L) M)
  | [], M, S => by simp [runE, runS]
  | o :: L, M, S => by
    by_cases h : apE S o = 0
    · have := run_append L M (apS S o)
      simp only [List.cons_append, runE, runS, if_neg (show ¬ apE S o ≠ 0 by simpa using h)]
      exact this
    · simp [runE, runS, h]
theorem take_op {l : List Ox} {k : Nat} (hk : k < l.length) : l.take (k + 1) = l.take k ++ [l.getD k oz] := by
  rw [List.take_add_one, List.getD_eq_getElem?_getD, List.getElem?_eq_getElem hk]; rfl
theorem run_go {L : List Ox} {S : Dq} {k : Nat} (hk : k < L.length) (h : runE S (L.take k) = 0) : runE S (L.take (k + 1)) = apE (runS S (L.take k)) (L.getD k oz) ∧ (apE (runS S (L.take k)) (L.getD k oz) = 0 → runS S (L.take (k + 1)) = apS (runS S (L.take k)) (L.getD k oz)) := by
  rw [take_op hk]
  obtain ⟨h1, h2⟩ := run_append (L.take k) [L.getD k oz] S
  rw [h1, h2]
  simp only [if_neg (show ¬ runE S (L.take k) ≠ 0 by simpa using h), runE, runS]
  refine ⟨?_, fun h9 => by rw [if_neg (by simpa using h9)]⟩
  by_cases h9 : apE (runS S (L.take k)) (L.getD k oz) = 0
  · rw [if_neg (by simpa using h9), h9]
  · rw [if_pos h9]
theorem run_stop {L : List Ox} {S : Dq} {k : Nat} (hk : k < L.length) (h : runE S (L.take k) = 0) (h9 : apE (runS S (L.take k)) (L.getD k oz) ≠ 0) : runE S L = apE (runS S (L.take k)) (L.getD k oz) ∧ runS S L = runS S (L.take k) := by
  have e : L = L.take k ++ (L.getD k oz :: L.drop (k + 1)) := by
    rw [List.getD_eq_getElem?_getD, List.getElem?_eq_getElem hk]
    simp
  obtain ⟨h1, h2⟩ := run_append (L.take k) (L.getD k oz :: L.drop (k + 1)) S
  rw [← e] at h1 h2
  rw [h1, h2]
  simp only [if_neg (show ¬ runE S (L.take k) ≠ 0 by simpa using h), runE, runS, if_pos h9]
  exact ⟨trivial, trivial⟩
theorem stay_wrong {S : Dq} {o : Ox} (h : apE S o ≠ 0) : apS S o = S := by
  unfold apS
  cases hn : isNew S o with
  | false => rfl
  | true =>
    obtain ⟨h0, hk, hf, hd⟩ := isNew_iff.1 hn
    exfalso; apply h
    unfold apE
    rw [if_neg (by simpa using h0), if_neg (by omega), if_neg (by omega), if_neg (by omega)]
    exact hd
theorem run_inv : ∀ (L : List Ox) {S : Dq}, Inv S → Inv (runS S L)
  | [], S, I => I
  | o :: L, S, I => by
    by_cases h : apE S o = 0
    · simp only [runS, if_neg (show ¬ apE S o ≠ 0 by simpa using h)]
      exact run_inv L (inv_ap I)
    · simp only [runS, if_pos h]; exact I
/- ops of one author, with the next dots -/
def Nexts (u : Int) : Int → List Ox → Prop
  | _, [] => True
  | n, o :: r => o.1 = (u, n + 1) ∧ Nexts u (n + 1) r
theorem nexts_of {u : Int} : ∀ (L : List Ox) (n : Int), (∀ k, k < L.length → (L.getD k oz).1 = (u, n + 1 + k)) → Nexts u n L
  | [], _, _ => trivial
  | o :: L, n, h => by
    refine ⟨by have := h 0 (by simp); simpa using this, nexts_of L (n + 1) fun k hk => ?_⟩
    have := h (k + 1) (by simpa using hk)
    rw [show n + 1 + 1 + (k : Int) = n + 1 + ((k + 1 : Nat) : Int) by omega]
    exact this
theorem new_of {S : Dq} {o : Ox} (hk : kn S o.1.1 + 1 = o.1.2) (h : apE S o = 0) : isNew S o = true := by
  unfold apE at h
  by_cases h0 : opE o = 0
  · rw [if_neg (by simpa using h0), if_neg (by omega), if_neg (by omega)] at h
    by_cases h4 : 400 ≤ S.ops.length
    · rw [if_pos h4] at h; omega
    · rw [if_neg h4] at h
      exact isNew_iff.2 ⟨h0, hk, by omega, h⟩
  · rw [if_pos h0] at h; exact absurd h h0
theorem run_new {u : Int} (u1 : 1 ≤ u) (u8 : u ≤ 8) : ∀ (L : List Ox) {S : Dq}, Inv S → Nexts u (kn S u) L → runE S L = 0 → (runS S L).ops = S.ops ++ L ∧ ∀ v : Int, 1 ≤ v → v ≤ 8 → kn (runS S L) v = if v = u then kn S u + L.length else kn S v
  | [], S, I, _, _ => ⟨by simp [runS], fun v _ _ => by simp only [runS, List.length_nil]; split <;> simp_all⟩
  | o :: L, S, I, hn, h => by
    obtain ⟨ho, hn⟩ := hn
    have hw : o.1.1 = u := by rw [ho]
    have hN : o.1.2 = kn S u + 1 := by rw [ho]
    by_cases h0 : apE S o = 0
    · have hnew := new_of (S := S) (o := o) (by rw [hw, hN]) h0
      have e : apS S o = next S o := by unfold apS; rw [hnew, if_pos rfl]
      simp only [runE, runS, if_neg (show ¬ apE S o ≠ 0 by simpa using h0)] at h ⊢
      have hk : ∀ v : Int, 1 ≤ v → v ≤ 8 → kn (apS S o) v = if v = u then kn S u + 1 else kn S v := fun v v1 v8 => by
        rw [e, kn_next S o v I.klen v1 v8 (by omega) (by omega), hw, hN]
      have hku := hk u u1 u8
      rw [if_pos rfl] at hku
      obtain ⟨i1, i2⟩ := run_new u1 u8 L (inv_ap I) (by rw [hku]; exact hn) h
      refine ⟨by rw [i1, e]; simp [next], fun v v1 v8 => ?_⟩
      rw [i2 v v1 v8, hku]
      by_cases hv : v = u
      · rw [if_pos hv, if_pos hv, List.length_cons]; omega
      · rw [if_neg hv, if_neg hv, hk v v1 v8, if_neg hv]
    · simp only [runE, if_pos h0] at h; exact absurd h h0
theorem insL_at {S : Dq} {who off : Int} {t : ByteArray} {k : Nat} (hk : k < t.size) : (insL S who off t).getD k oz = insO (leftP S.book off.toNat) (rightP S.book off.toNat) who (kn S who) t k := by
  unfold insL
  rw [List.getD_eq_getElem?_getD, List.getElem?_map, List.getElem?_range hk]; rfl
theorem insL_next (S : Dq) (who off : Int) (t : ByteArray) : Nexts who (kn S who) (insL S who off t) := nexts_of _ _ fun k hk => by
  rw [insL_len] at hk
  rw [insL_at hk]; rfl
theorem insL_mem {S : Dq} {who off : Int} {t : ByteArray} {o : Ox} (h : o ∈ insL S who off t) : ∃ k, k < t.size ∧ o = insO (leftP S.book off.toNat) (rightP S.book off.toNat) who (kn S who) t k := by
  unfold insL at h
  obtain ⟨k, hk, e⟩ := List.mem_map.1 h
  exact ⟨k, List.mem_range.1 hk, e.symm⟩
theorem off_nat {S : Dq} {who off : Int} {t : ByteArray} (h : InsOk S who off t) : off.toNat ≤ (seenP S.book).length := by have := h.off0; have := h.off1; omega
/- the places of an insert are in no leaf of the book -/
theorem ins_fresh {S : Dq} {who off : Int} {t : ByteArray} (hb : Bm.bookE S.book = 0) (h : InsOk S who off t) {k : Nat} (hk : k < t.size) :
    Bm.ahd S.book (nthP (leftP S.book off.toNat) (rightP S.book off.toNat) who (k + 1)).toList = nxt S.book off.toNat ∧ Bm.has S.book (nthP (leftP S.book off.toNat) (rightP S.book off.toNat) who (k + 1)).toList = false := by
  have s := nth_chk h.row hk
  have hu := nth_rise h.row (k + 1) (by omega) 0 (by omega)
  exact fresh hb (off_nat h) (Or.inr hu) s.down
theorem small_ops {S : Dq} {who off : Int} {t : ByteArray} (hb : Bm.bookE S.book = 0) (h : InsOk S who off t) : ∀ x ∈ insL S who off t, x.2.2.1.size ≤ 12 := fun x hx => by
  obtain ⟨k, hk, rfl⟩ := insL_mem hx
  exact nth_small h.row (left_small hb _).1 (k + 1) (by omega)

end Um
end Go.Proofs.YtlmdchpbpgcfmaaGreat
/- The plain mathematics of edits, further on: the book behind an insert. No program is named here. -/
namespace Go.Proofs.YtlmdchpbpgcfmaaGreat
namespace Um
set_option linter.unusedVariables false
open Cm Om Hm
open Op (bytesLess)
open Bm (Leaf none0)

def news (a b : ByteArray) (who : Int) (t : ByteArray) (k : Nat) : List Leaf := (List.range k).map fun j => (nthP a b who (j + 1), ((t.toList.getD j 0).toNat : Int), false)
theorem news_next (a b : ByteArray) (who : Int) (t : ByteArray) (k : Nat) : news a b who t (k + 1) = news a b who t k ++ [(nthP a b who (k + 1), ((t.toList.getD k 0).toNat : Int), false)] := by
  unfold news; rw [List.range_succ, List.map_append]; rfl
theorem news_len (a b : ByteArray) (who : Int) (t : ByteArray) (k : Nat) : (news a b who t k).length = k := by unfold news; simp
theorem news_mem {a b : ByteArray} {who : Int} {t : ByteArray} {k : Nat} {x : Leaf} (h : x ∈ news a b who t k) : ∃ j, j < k ∧ x = (nthP a b who (j + 1), ((t.toList.getD j 0).toNat : Int), false) := by
  unfold news at h
  obtain ⟨j, hj, e⟩ := List.mem_map.1 h
  exact ⟨j, List.mem_range.1 hj, e.symm⟩
theorem let_at {t : ByteArray} (h : okText t = true) {k : Nat} (hk : k < t.size) : Bm.isL ((t.toList.getD k 0).toNat : Int) = true := by
  unfold okText at h
  rw [List.all_eq_true] at h
  have hk2 : k < t.toList.length := by rw [len_eq]; exact hk
  rw [List.getD_eq_getElem?_getD, List.getElem?_eq_getElem hk2]
  exact h _ (List.getElem_mem hk2)
theorem news_seen {a b : ByteArray} {who : Int} {t : ByteArray} (h : okText t = true) : ∀ k, k ≤ t.size → Bm.text (news a b who t k) = t.toList.take k ∧ seenP (news a b who t k) = (List.range k).map (fun j => nthP a b who (j + 1))
  | 0, _ => by simp [news, Bm.text, seenP]
  | k + 1, hk => by
    obtain ⟨i1, i2⟩ := news_seen h (a := a) (b := b) (who := who) k (by omega)
    have hl := let_at h (k := k) (by omega)
    have hk2 : k < t.toList.length := by rw [len_eq]; omega
    have hs : Bm.isS ((nthP a b who (k + 1), ((t.toList.getD k 0).toNat : Int), false) : Leaf) = true := by
      unfold Bm.isS
      have := (Bm.isL_ne hl).1
      simpa using this
    rw [news_next, Bm.text_append, seenP_append, i1, i2, Bm.text_cons, seenP_cons, hs, if_pos rfl, if_pos rfl, List.range_succ, List.map_append]
    refine ⟨?_, rfl⟩
    rw [List.take_add_one, List.getElem?_eq_getElem hk2, List.getD_eq_getElem?_getD, List.getElem?_eq_getElem hk2]
    congr 1
    show [Bm.letter (_, _, _)] = [_]
    congr 1
    unfold Bm.letter
    simp
theorem ahd_parts {A B : List Leaf} {p : List UInt8} (hA : ∀ x ∈ A, bytesLess x.1.toList p = true) (hB : ∀ x ∈ B, bytesLess p x.1.toList = true) : Bm.ahd (A ++ B) p = A.length ∧ Bm.has (A ++ B) p = false := by
  have e : Bm.ahd (A ++ B) p = A.length := by
    unfold Bm.ahd
    rw [List.takeWhile_append_of_pos hA]
    cases B with
    | nil => simp
    | cons y B =>
      have := Bm.less_asymm (hB y (List.mem_cons_self ..))
      rw [List.takeWhile_cons_of_neg (by simp [this])]; simp
  refine ⟨e, ?_⟩
  unfold Bm.has
  rw [e]
  cases B with
  | nil => simp
  | cons y B =>
    have h := hB y (List.mem_cons_self ..)
    have e2 : (A ++ y :: B).getD A.length none0 = y := by rw [List.getD_eq_getElem?_getD, List.getElem?_append_right (Nat.le_refl _)]; simp
    rw [e2]
    cases h3 : (y.1.toList == p) with
    | false => simp
    | true => rw [beq_iff_eq] at h3; rw [h3, Bm.less_irrefl] at h; cases h
theorem write_parts {l A B : List Leaf} (hl : l = A ++ B) (hb : Bm.bookE l = 0) {p : ByteArray} {c : Int} (hc : Pm.chk p.toList = 0) (hi : Bm.isL c = true) (hlen : l.length < 300) (hA : ∀ x ∈ A, bytesLess x.1.toList p.toList = true) (hB : ∀ x ∈ B, bytesLess p.toList x.1.toList = true) : Bm.writeE l p c = 0 ∧ Bm.writeL l p c = A ++ (p, c, false) :: B := by
  obtain ⟨h1, h2⟩ := ahd_parts hA hB
  rw [← hl] at h1 h2
  have h3 : Bm.leafAt l p = (p, 0, false) := by unfold Bm.leafAt; rw [h2]; rfl
  have h4 : Bm.writeE l p c = 0 := Bm.writeE_zero.2 ⟨Bm.withE_zero.2 ⟨hb, hc⟩, Bm.wrE_zero.2 ⟨hi, by unfold Bm.clash; rw [h3]; rfl, Bm.putE_zero.2 (Or.inr hlen)⟩⟩
  refine ⟨h4, ?_⟩
  rw [(Bm.write_book h4).2]
  unfold Bm.putL Bm.wrX
  rw [h1, h2, h3, hl, List.take_left' rfl, if_neg (by simp), List.drop_left' rfl]
theorem nexts_take {u : Int} : ∀ (L : List Ox) (n : Int) (k : Nat), Nexts u n L → Nexts u n (L.take k)
  | [], _, k, _ => by simp [Nexts]
  | o :: L, n, 0, _ => trivial
  | o :: L, n, k + 1, h => ⟨h.1, nexts_take L (n + 1) k h.2⟩
theorem kn_le {S : Dq} (I : Inv S) {u : Int} (h1 : 1 ≤ u) (h8 : u ≤ 8) : 0 ≤ kn S u ∧ kn S u ≤ S.ops.length := by
  have h := I.kno u h1 h8
  have := List.length_filter_le (fun o : Ox => decide (o.1.1 = u)) S.ops
  omega
theorem ap_ok {S : Dq} {o : Ox} (h0 : opE o = 0) (hk : kn S o.1.1 + 1 = o.1.2) (hf : S.ops.length < 400) (hd : doE S o = 0) : apE S o = 0 ∧ apS S o = next S o := by
  have hn : isNew S o = true := isNew_iff.2 ⟨h0, hk, hf, hd⟩
  refine ⟨?_, by unfold apS; rw [hn, if_pos rfl]⟩
  unfold apE
  rw [if_neg (by simpa using h0), if_neg (by omega), if_neg (by omega), if_neg (by omega)]; exact hd
theorem doE_w (T : Dq) (d : Dt) (p : ByteArray) (c : Int) (s : List Dt) : doE T (d, 1, p, c, s) = Bm.writeE T.book p c := by unfold doE; simp
theorem doB_w (T : Dq) (d : Dt) (p : ByteArray) (c : Int) (s : List Dt) : doB T (d, 1, p, c, s) = Bm.writeL T.book p c := by unfold doB; simp
theorem doM_w (T : Dq) (d : Dt) (p : ByteArray) (c : Int) (s : List Dt) : doM T (d, 1, p, c, s) = T.marks := by unfold doM; simp
theorem ins_run {S : Dq} {who off : Int} {t : ByteArray} (I : Inv S) (h : InsOk S who off t) (hl : S.book.length + t.size ≤ 300) (ho : S.ops.length + t.size ≤ 400) : ∀ k, k ≤ t.size →
    runE S ((insL S who off t).take k) = 0 ∧ (runS S ((insL S who off t).take k)).book = S.book.take (nxt S.book off.toNat) ++ news (leftP S.book off.toNat) (rightP S.book off.toNat) who t k ++ S.book.drop (nxt S.book off.toNat) ∧ (runS S ((insL S who off t).take k)).marks = S.marks
  | 0, _ => by simp [runE, runS, news]
  | k + 1, hk => by
    obtain ⟨i1, i2, i3⟩ := ins_run I h hl ho k (by omega)
    have hkl : k < (insL S who off t).length := by rw [insL_len]; omega
    obtain ⟨g1, g2⟩ := run_go (S := S) hkl i1
    obtain ⟨r1, r2⟩ := run_new h.who1 h.who8 _ I (nexts_take _ _ k (insL_next S who off t)) i1
    have hT := run_inv ((insL S who off t).take k) I
    have hlen : ((insL S who off t).take k).length = k := by rw [List.length_take]; omega
    rw [insL_at (by omega)] at g1 g2
    obtain ⟨T, hTe⟩ : ∃ T, T = runS S ((insL S who off t).take k) := ⟨_, rfl⟩
    rw [← hTe] at g1 g2 i2 i3 r1 r2 hT
    have hkn : kn T who = kn S who + k := by rw [r2 who h.who1 h.who8, if_pos rfl, hlen]
    have s := nth_chk h.row (k := k) (by omega)
    have hlet := let_at h.lets (k := k) (by omega)
    obtain ⟨n0, n1⟩ := kn_le I h.who1 h.who8
    obtain ⟨a, ha⟩ : ∃ a, a = leftP S.book off.toNat := ⟨_, rfl⟩
    obtain ⟨b, hbb⟩ : ∃ b, b = rightP S.book off.toNat := ⟨_, rfl⟩
    have hfr := ins_fresh I.book h (k := k) (by omega)
    obtain ⟨_, _, hr⟩ := Bm.bookE_zero.1 I.book
    have hrise := nth_rise h.row (k + 1) (by omega)
    obtain ⟨c1, _, _⟩ := cut_off (off_nat h)
    rw [← ha, ← hbb] at g1 g2 i2 s hfr hrise ⊢
    obtain ⟨p, hp⟩ : ∃ p, p = nthP a b who (k + 1) := ⟨_, rfl⟩
    have hpc : Pm.chk p.toList = 0 := by rw [hp]; exact s.chk
    have hA : ∀ x ∈ S.book.take (nxt S.book off.toNat) ++ news a b who t k, bytesLess x.1.toList p.toList = true := by
      intro x hx
      rcases List.mem_append.1 hx with hx | hx
      · rw [← hfr.1, ← hp] at hx; exact (Bm.take_less hr hx).2
      · obtain ⟨j, hj, rfl⟩ := news_mem hx
        rw [hp]; exact hrise (j + 1) (by omega)
    have hB : ∀ x ∈ S.book.drop (nxt S.book off.toNat), bytesLess p.toList x.1.toList = true := by
      intro x hx
      have e : nxt S.book off.toNat = (if Bm.has S.book p.toList then Bm.ahd S.book p.toList + 1 else Bm.ahd S.book p.toList) := by rw [hp, hfr.2, hfr.1]; rfl
      rw [e] at hx
      exact (Bm.drop_more hr hx).2
    have hTl : T.book.length = S.book.length + k := by
      rw [i2, List.length_append, List.length_append, List.length_take, List.length_drop, news_len]; omega
    obtain ⟨w1, w2⟩ := write_parts i2 hT.book hpc hlet (by omega) hA hB
    have hop : opE (insO a b who (kn S who) t k) = 0 := by
      refine opE_zero.2 ⟨dotE_iff.2 ⟨h.who1, h.who8, ?_, ?_⟩, ⟨by show (1 : Int) ≤ 1; decide, by show (1 : Int) ≤ 4; decide⟩, by rw [hp] at hpc; exact hpc, lawOf_zero.2 ⟨fun _ => ?_, fun e => absurd rfl e, fun _ => rfl, Nat.zero_le _, rfl⟩⟩
      · show 1 ≤ kn S who + 1 + (k : Int); omega
      · show kn S who + 1 + (k : Int) ≤ 9999
        have := I.few
        omega
      · have := Bm.isL_ne hlet; exact ⟨this.2.1, this.2.2⟩
    have hdo : doE T (insO a b who (kn S who) t k) = 0 := by
      unfold insO; rw [doE_w, ← hp]; exact w1
    have hops : T.ops.length < 400 := by rw [r1, List.length_append, hlen]; omega
    obtain ⟨e1, e2⟩ := ap_ok (S := T) hop (by show kn T who + 1 = kn S who + 1 + (k : Int); omega) hops hdo
    rw [e1] at g1
    rw [g2 e1, e2]
    refine ⟨g1, ?_, ?_⟩
    · show doB T (insO a b who (kn S who) t k) = _
      unfold insO
      rw [doB_w, ← hp, w2, news_next, ← hp]
      simp
    · show doM T (insO a b who (kn S who) t k) = _
      unfold insO; rw [doM_w]; exact i3
/- what is seen behind an insert -/
theorem ins_text {S : Dq} {who off : Int} {t : ByteArray} (I : Inv S) (h : InsOk S who off t) (hl : S.book.length + t.size ≤ 300) (ho : S.ops.length + t.size ≤ 400) :
    runE S (insL S who off t) = 0 ∧ Bm.text (runS S (insL S who off t)).book = (Bm.text S.book).take off.toNat ++ t.toList ++ (Bm.text S.book).drop off.toNat := by
  obtain ⟨h1, h2, _⟩ := ins_run I h hl ho t.size (Nat.le_refl _)
  have e : (insL S who off t).take t.size = insL S who off t := by rw [List.take_of_length_le]; rw [insL_len]; exact Nat.le_refl _
  rw [e] at h1 h2
  refine ⟨h1, ?_⟩
  rw [h2, Bm.text_append, Bm.text_append, (news_seen h.lets t.size (Nat.le_refl _)).1]
  obtain ⟨c1, c2, _⟩ := cut_off (off_nat h)
  rw [seenP_len] at c2
  have e2 : Bm.text S.book = Bm.text (S.book.take (nxt S.book off.toNat)) ++ Bm.text (S.book.drop (nxt S.book off.toNat)) := by rw [← Bm.text_append, List.take_append_drop]
  have e3 : t.toList.take t.size = t.toList := by rw [List.take_of_length_le]; rw [len_eq]; exact Nat.le_refl _
  rw [e3]
  conv => rhs; rw [e2]
  rw [List.take_left' c2, List.drop_left' c2]

end Um
end Go.Proofs.YtlmdchpbpgcfmaaGreat
