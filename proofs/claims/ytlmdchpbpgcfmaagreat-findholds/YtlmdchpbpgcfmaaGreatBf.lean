/- The plain mathematics of package back: what it takes back, op by op, and that it is what the document's answer is. No program is named here. -/
import Derived.Test.YtlmdchpbpgcfmaaGreatBa
import Derived.Test.YtlmdchpbpgcfmaaGreatU0
namespace Go.Proofs.YtlmdchpbpgcfmaaGreat
namespace Bf
set_option linter.unusedVariables false
open Cm Om Hm Um Ba
open Op (bytesLess)
open Bm (Leaf none0 ahd has leafAt bookE isL putE putL stX wrX wrE Rise leafE)

def insB (B : List Leaf) (i : Nat) (x : Leaf) : List Leaf := B.take i ++ x :: B.drop i
theorem insB_len {B : List Leaf} {i : Nat} (h : i ≤ B.length) (x : Leaf) : (insB B i x).length = B.length + 1 := by
  unfold insB; simp; omega
/- leafs that are right and rise, however many -/
structure Ok (B : List Leaf) : Prop where
  rise : Rise B
  leaf : ∀ x ∈ B, leafE x = 0
theorem ok_book {B : List Leaf} (h : bookE B = 0) : Ok B := ⟨(Bm.bookE_zero.1 h).2.2, (Bm.bookE_zero.1 h).2.1⟩
theorem Ok.book {B : List Leaf} (h : Ok B) (hl : B.length ≤ 300) : bookE B = 0 := Bm.bookE_zero.2 ⟨hl, h.leaf, h.rise⟩
theorem has_lt {B : List Leaf} {p : List UInt8} (h : has B p = true) : ahd B p < B.length := by
  unfold has at h; simp only [Bool.and_eq_true, decide_eq_true_eq] at h; exact h.1
theorem leaf_get {B : List Leaf} {p : ByteArray} (h : has B p.toList = true) : leafAt B p = B.getD (ahd B p.toList) none0 := by unfold leafAt; rw [if_pos h]
theorem leaf_not {B : List Leaf} {p : ByteArray} (h : has B p.toList = false) : leafAt B p = (p, 0, false) := by unfold leafAt; rw [h]; rfl
theorem put_ok {B : List Leaf} (h : Ok B) {p : ByteArray} {x : Leaf} (hx : x.1 = p) (hl : leafE x = 0) : Ok (putL B p x) :=
  ⟨Bm.put_rise h.rise hx, fun y hy => by
    rcases (Bm.put_mem h.rise hx y).1 hy with rfl | ⟨h1, _⟩
    · exact hl
    · exact h.leaf y h1⟩
theorem leaf_ok {B : List Leaf} (h : Ok B) {p : ByteArray} (hh : has B p.toList = true) : leafE (leafAt B p) = 0 ∧ (leafAt B p).1 = p :=
  ⟨h.leaf _ (Bm.leafAt_has h.rise hh).1, (Bm.leafAt_has h.rise hh).2⟩
theorem st_set {B : List Leaf} (h : Ok B) {o : Ox} (hh : has B o.2.2.1.toList = true) : stB o B = B.set (ahd B o.2.2.1.toList) ((B.getD (ahd B o.2.2.1.toList) none0).1, (B.getD (ahd B o.2.2.1.toList) none0).2.1, true) := by
  unfold stB putL
  rw [hh, if_pos rfl, List.set_eq_take_append_cons_drop, if_pos (has_lt hh), ← leaf_get hh, (leaf_ok h hh).2]; rfl
theorem st_ok {B : List Leaf} (h : Ok B) {o : Ox} (hh : has B o.2.2.1.toList = true) : Ok (stB o B) ∧ (stB o B).length = B.length := by
  obtain ⟨h1, h2⟩ := leaf_ok h hh
  obtain ⟨l1, l2, l3⟩ := Bm.leafE_zero.1 h1
  rw [h2] at l1
  refine ⟨put_ok h rfl (Bm.leafE_zero.2 ⟨l1, l2, Or.inr rfl⟩), ?_⟩
  unfold stB
  rw [Bm.put_length h.rise, if_pos hh]
/- the place of a letter that is written anew -/
theorem new_at {B : List Leaf} (h : Ok B) {who : Int} {o : Ox} (hh : has B o.2.2.1.toList = true) (hE : betE who o B = 0) : ahd B (newP who o B).toList = ahd B o.2.2.1.toList + 1 ∧ has B (newP who o B).toList = false := by
  have s : Stp o.2.2.1 (behind B o.2.2.1) who := step_ok hE
  have hlt := has_lt hh
  have hk := (leaf_ok h hh).2
  rw [leaf_get hh] at hk
  have lo : ∀ j, j < ahd B o.2.2.1.toList + 1 → bytesLess (B.getD j none0).1.toList (newP who o B).toList = true := by
    intro j hj
    rcases Nat.lt_or_eq_of_le (show j ≤ ahd B o.2.2.1.toList by omega) with e | e
    · have h1 := Bm.rise_lt h.rise e hlt
      rw [hk] at h1
      exact Bm.less_trans h1 s.up
    · rw [e, hk]; exact s.up
  have hi : ∀ j, ahd B o.2.2.1.toList + 1 ≤ j → j < B.length → bytesLess (newP who o B).toList (B.getD j none0).1.toList = true := by
    intro j hj hl
    have e : behind B o.2.2.1 = (B.getD (ahd B o.2.2.1.toList + 1) none0).1 := by unfold behind; rw [if_pos (by omega)]
    have h9 : bytesLess (newP who o B).toList (B.getD (ahd B o.2.2.1.toList + 1) none0).1.toList = true := by
      have h2 := s.down
      rcases h2 with q | q
      · rw [e] at q
        exact absurd q (chk_ne (Bm.leafE_zero.1 (h.leaf _ (Bm.getD_mem (show ahd B o.2.2.1.toList + 1 < B.length by omega)))).1)
      · rw [← e]; exact q
    rcases Nat.lt_or_eq_of_le hj with q | q
    · exact Bm.less_trans h9 (Bm.rise_lt h.rise q hl)
    · rw [← q]; exact h9
  refine ⟨Bm.ahead_eq h.rise (by omega) lo (fun j hj hl => Bm.less_asymm (hi j hj hl)), ?_⟩
  cases e : has B (newP who o B).toList with
  | false => rfl
  | true =>
    obtain ⟨x, hx, e2⟩ := (Bm.has_iff h.rise).1 e
    obtain ⟨j, hj, rfl⟩ := Bm.mem_getD hx
    rcases Nat.lt_or_ge j (ahd B o.2.2.1.toList + 1) with q | q
    · have := lo j q; rw [e2, Bm.less_irrefl] at this; cases this
    · have := hi j q hj; rw [e2, Bm.less_irrefl] at this; cases this
theorem wr_ins {B : List Leaf} (h : Ok B) {who : Int} {o : Ox} (hh : has B o.2.2.1.toList = true) (hE : betE who o B = 0) : wrB who o B = insB B (ahd B o.2.2.1.toList + 1) (newP who o B, let' o B, false) := by
  obtain ⟨h1, h2⟩ := new_at h hh hE
  unfold wrB putL wrX insB
  rw [h1, h2, leaf_not h2]; rfl
theorem wr_ok {B : List Leaf} (h : Ok B) {who : Int} {o : Ox} (hh : has B o.2.2.1.toList = true) (hE : betE who o B = 0) (hl : isL (let' o B) = true) : Ok (wrB who o B) ∧ (wrB who o B).length = B.length + 1 := by
  obtain ⟨h1, h2⟩ := new_at h hh hE
  have s : Stp o.2.2.1 (behind B o.2.2.1) who := step_ok hE
  refine ⟨put_ok h rfl (Bm.leafE_zero.2 ⟨s.chk, Or.inr hl, Or.inl (Bm.isL_ne hl).1⟩), ?_⟩
  unfold wrB
  rw [Bm.put_length h.rise, if_neg (by rw [h2]; simp)]

/- what package back does -/
def mine (S : Dq) (who : Int) : List Ox := S.ops.filter fun o => decide (o.1.1 = who)
def kindP (S : Dq) (o : Ox) (B : List Leaf) : Nat :=
  if has B o.2.2.1.toList = false then 0
  else if o.2.1 = 1 ∧ Bm.isS (leafAt B o.2.2.1) = true then 1
  else if o.2.1 = 2 ∧ isL (leafAt B o.2.2.1).2.1 = true ∧ cnt S.ops o.2.2.1 = 1 then 2
  else 0
def unP (S : Dq) (who : Int) : List Ox → Nat → List Leaf → List Ox → Int × List Ox × List Leaf
  | [], _, B, L => (0, L, B)
  | _ :: _, 0, B, L => (0, L, B)
  | o :: r, k + 1, B, L =>
    if kindP S o B = 1 then unP S who r k (stB o B) (L ++ [stO S who o L])
    else if kindP S o B = 2 then
      (if betE who o B ≠ 0 then (betE who o B, [], B) else unP S who r k (wrB who o B) (L ++ [wrO S who o B L]))
    else unP S who r (k + 1) B L
def endE (U : Int × List Ox × List Leaf) : Int := if U.1 ≠ 0 then U.1 else if 300 < U.2.2.length then 4 else 0
def unE (S : Dq) (who n : Int) : Int := if Pm.isWho who = false ∨ n < 0 ∨ 200 < n then 1 else endE (unP S who (mine S who).reverse n.toNat S.book [])
theorem end_err {U : Int × List Ox × List Leaf} (h : U.1 ≠ 0) : endE U = U.1 := by unfold endE; rw [if_pos h]
theorem end_full {L : List Ox} {B : List Leaf} (h : 300 < B.length) : endE (0, L, B) = 4 := by unfold endE; rw [if_neg (by simp), if_pos h]
theorem end_ok {L : List Ox} {B : List Leaf} (h : ¬ 300 < B.length) : endE (0, L, B) = 0 := by unfold endE; rw [if_neg (by simp), if_neg h]
def unL (S : Dq) (who n : Int) : List Ox := (unP S who (mine S who).reverse n.toNat S.book []).2.1
theorem unP_none (S : Dq) (who : Int) (l : List Ox) (B : List Leaf) (L : List Ox) : unP S who l 0 B L = (0, L, B) := by cases l <;> rfl
theorem unP_st {S : Dq} {who : Int} {o : Ox} {r : List Ox} {k : Nat} {B : List Leaf} {L : List Ox} (h : kindP S o B = 1) : unP S who (o :: r) (k + 1) B L = unP S who r k (stB o B) (L ++ [stO S who o L]) := by
  rw [unP, if_pos h]
theorem unP_skip {S : Dq} {who : Int} {o : Ox} {r : List Ox} {k : Nat} {B : List Leaf} {L : List Ox} (h : kindP S o B = 0) : unP S who (o :: r) (k + 1) B L = unP S who r (k + 1) B L := by
  rw [unP, if_neg (by omega), if_neg (by omega)]
theorem unP_wr {S : Dq} {who : Int} {o : Ox} {r : List Ox} {k : Nat} {B : List Leaf} {L : List Ox} (h : kindP S o B = 2) : unP S who (o :: r) (k + 1) B L = if betE who o B ≠ 0 then (betE who o B, [], B) else unP S who r k (wrB who o B) (L ++ [wrO S who o B L]) := by
  rw [unP, if_neg (by omega), if_pos h]
theorem kind_has {S : Dq} {o : Ox} {B : List Leaf} (h : kindP S o B ≠ 0) : has B o.2.2.1.toList = true := by
  unfold kindP at h
  cases e : has B o.2.2.1.toList with
  | true => rfl
  | false => rw [e, if_pos rfl] at h; exact absurd rfl h
theorem kind_two {S : Dq} {o : Ox} {B : List Leaf} (h : kindP S o B = 2) : o.2.1 = 2 ∧ isL (let' o B) = true ∧ cnt S.ops o.2.2.1 = 1 := by
  have hh := kind_has (S := S) (o := o) (B := B) (by omega)
  unfold kindP at h
  rw [hh, if_neg (by simp)] at h
  by_cases h1 : o.2.1 = 1 ∧ Bm.isS (leafAt B o.2.2.1) = true
  · rw [if_pos h1] at h; omega
  · rw [if_neg h1] at h
    by_cases h2 : o.2.1 = 2 ∧ isL (leafAt B o.2.2.1).2.1 = true ∧ cnt S.ops o.2.2.1 = 1
    · exact h2
    · rw [if_neg h2] at h; omega
theorem kind_one {S : Dq} {o : Ox} {B : List Leaf} (h : kindP S o B = 1) : o.2.1 = 1 ∧ Bm.isS (leafAt B o.2.2.1) = true := by
  have hh := kind_has (S := S) (o := o) (B := B) (by omega)
  unfold kindP at h
  rw [hh, if_neg (by simp)] at h
  by_cases h1 : o.2.1 = 1 ∧ Bm.isS (leafAt B o.2.2.1) = true
  · exact h1
  · rw [if_neg h1] at h
    by_cases h2 : o.2.1 = 2 ∧ isL (leafAt B o.2.2.1).2.1 = true ∧ cnt S.ops o.2.2.1 = 1
    · rw [if_pos h2] at h; omega
    · rw [if_neg h2] at h; omega
theorem kind_le (S : Dq) (o : Ox) (B : List Leaf) : kindP S o B = 0 ∨ kindP S o B = 1 ∨ kindP S o B = 2 := by
  unfold kindP
  split
  · exact Or.inl rfl
  · split
    · exact Or.inr (Or.inl rfl)
    · split
      · exact Or.inr (Or.inr rfl)
      · exact Or.inl rfl

/- the document's answer is the same -/
structure Jn (S : Dq) (B : List Leaf) (L : List Ox) : Prop where
  ok : Ok B
  st : ∀ o ∈ S.ops, o.2.1 = 2 → (leafAt B o.2.2.1).2.2 = true
  cn : ∀ p, cnt L p ≠ 0 → cnt S.ops p = 0
theorem cnt_pos {l : List Ox} {o : Ox} (h : o ∈ l) (h2 : o.2.1 = 2) : cnt l o.2.2.1 ≠ 0 := by
  unfold cnt
  intro e
  rw [List.length_eq_zero_iff, List.filter_eq_nil_iff] at e
  exact e o h (by simp [h2])
theorem cnt_none {l : List Ox} {p : ByteArray} (h : ∀ o ∈ l, o.2.1 = 2 → o.2.2.1 ≠ p) : cnt l p = 0 := by
  unfold cnt
  rw [List.length_eq_zero_iff, List.filter_eq_nil_iff]
  intro o ho e
  simp only [Bool.and_eq_true, decide_eq_true_eq] at e
  exact h o ho e.1 e.2
theorem kind_eq {S : Dq} {who : Int} {B : List Leaf} {L : List Ox} {o : Ox} (J : Jn S B L) (ho : o ∈ S.ops) (hw : o.1.1 = who) : kind S who o B L = kindP S o B := by
  unfold kind kindP
  cases hh : has B o.2.2.1.toList with
  | false => rw [if_pos (Or.inr (Or.inl rfl)), if_pos rfl]
  | true =>
    rw [if_neg (show ¬ (true = false) by simp)]
    obtain ⟨l1, l2, l3⟩ := Bm.leafE_zero.1 (leaf_ok J.ok hh).1
    by_cases h0 : (leafAt B o.2.2.1).2.1 = 0
    · rw [if_pos (Or.inr (Or.inr h0)), if_neg (by rintro ⟨_, e⟩; unfold Bm.isS at e; rw [h0] at e; simp at e), if_neg (by rintro ⟨_, e, _⟩; rw [h0] at e; simp [isL] at e)]
    · rw [if_neg (by simp [hw, h0])]
      have hS : Bm.isS (leafAt B o.2.2.1) = true ↔ (leafAt B o.2.2.1).2.2 = false := by unfold Bm.isS; simp [h0]
      by_cases h1 : o.2.1 = 1 ∧ (leafAt B o.2.2.1).2.2 = false
      · rw [if_pos h1, if_pos ⟨h1.1, hS.2 h1.2⟩]
      · have h1b : ¬ (o.2.1 = 1 ∧ Bm.isS (leafAt B o.2.2.1) = true) := fun e => h1 ⟨e.1, hS.1 e.2⟩
        rw [if_neg h1, if_neg h1b]
        have hl : isL (leafAt B o.2.2.1).2.1 = true := by rcases l2 with e | e; exact absurd e h0; exact e
        by_cases h2 : o.2.1 = 2
        · have hst := J.st o ho h2
          have hc := cnt_pos ho h2
          have hL : cnt L o.2.2.1 = 0 := Decidable.byContradiction fun e => hc (J.cn _ e)
          rw [hL, Nat.add_zero]
          by_cases h3 : cnt S.ops o.2.2.1 = 1
          · rw [if_pos ⟨h2, hst, h3⟩, if_pos ⟨h2, hl, h3⟩]
          · rw [if_neg (fun e => h3 e.2.2), if_neg (fun e => h3 e.2.2)]
        · rw [if_neg (fun e => h2 e.1), if_neg (fun e => h2 e.1)]
theorem Jn.strike {S : Dq} {who : Int} {B : List Leaf} {L : List Ox} {o : Ox} (J : Jn S B L) (hk : kindP S o B = 1) : Jn S (stB o B) (L ++ [stO S who o L]) := by
  have hh := kind_has (S := S) (o := o) (B := B) (by omega)
  obtain ⟨k1, k2⟩ := kind_one hk
  refine ⟨(st_ok J.ok hh).1, fun x hx h2 => ?_, fun p hp => ?_⟩
  · unfold stB
    rw [Bm.leafAt_put J.ok.rise (p := o.2.2.1) (x := stX B o.2.2.1) rfl]
    split
    · rfl
    · exact J.st x hx h2
  · by_cases h0 : cnt L p = 0
    · rw [cnt_append, h0, Nat.zero_add] at hp
      have e : o.2.2.1 = p := by
        refine Decidable.byContradiction fun e => hp (cnt_none fun y hy _ => ?_)
        rw [List.mem_singleton.1 hy]; exact e
      refine cnt_none fun x hx h2 e2 => ?_
      have h9 := J.st x hx h2
      rw [e2, ← e] at h9
      unfold Bm.isS at k2
      rw [h9] at k2; simp at k2
    · exact J.cn p h0
theorem Jn.write {S : Dq} {who : Int} {B : List Leaf} {L : List Ox} {o : Ox} (J : Jn S B L) (hk : kindP S o B = 2) (hE : betE who o B = 0) : Jn S (wrB who o B) (L ++ [wrO S who o B L]) := by
  have hh := kind_has (S := S) (o := o) (B := B) (by omega)
  obtain ⟨k1, k2, k3⟩ := kind_two hk
  refine ⟨(wr_ok J.ok hh hE k2).1, fun x hx h2 => ?_, fun p hp => ?_⟩
  · unfold wrB
    rw [Bm.leafAt_put J.ok.rise (p := newP who o B) (x := wrX B (newP who o B) (let' o B)) rfl]
    split
    · rename_i e
      have := J.st x hx h2
      rw [e] at this; exact this
    · exact J.st x hx h2
  · rw [cnt_append, cnt_none (l := [wrO S who o B L]) (fun y hy h2 => by rw [List.mem_singleton.1 hy] at h2; exact absurd (show (1 : Int) = 2 from h2) (by decide)), Nat.add_zero] at hp
    exact J.cn p hp
theorem un_same {S : Dq} {who : Int} : ∀ (l : List Ox) (k : Nat) (B : List Leaf) (L : List Ox), (∀ o ∈ l, o ∈ S.ops) → Jn S B L → B.length + l.length ≤ 300 →
    (und S who l k B L).1 = (unP S who (l.filter fun o => decide (o.1.1 = who)) k B L).1 ∧ (und S who l k B L).2 = (if (und S who l k B L).1 = 0 then (unP S who (l.filter fun o => decide (o.1.1 = who)) k B L).2.1 else []) ∧ (unP S who (l.filter fun o => decide (o.1.1 = who)) k B L).2.2.length ≤ 300
  | [], k, B, L, _, J, h => ⟨rfl, by simp [und, unP], by simp only [List.filter_nil, unP]; simpa using h⟩
  | o :: r, 0, B, L, hm, J, h => by
    rw [und_none, unP_none]; exact ⟨rfl, by simp, by simp only [List.length_cons] at h ⊢; omega⟩
  | o :: r, k + 1, B, L, hm, J, h => by
    have hm2 : ∀ x ∈ r, x ∈ S.ops := fun x hx => hm x (List.mem_cons_of_mem _ hx)
    rw [List.length_cons] at h
    by_cases hw : o.1.1 = who
    · rw [List.filter_cons, if_pos (by simpa using hw)]
      have hke := kind_eq (who := who) J (hm o (List.mem_cons_self ..)) hw
      rcases kind_le S o B with hk | hk | hk
      · rw [hk] at hke
        rw [und_skip hke, unP_skip hk]
        exact un_same r (k + 1) B L hm2 J (by omega)
      · rw [hk] at hke
        have hh := kind_has (S := S) (o := o) (B := B) (by omega)
        rw [und_st hke, unP_st hk]
        exact un_same r k (stB o B) _ hm2 (J.strike hk) (by rw [(st_ok J.ok hh).2]; omega)
      · rw [hk] at hke
        have hh := kind_has (S := S) (o := o) (B := B) (by omega)
        obtain ⟨k1, k2, k3⟩ := kind_two hk
        rw [und_wr hke, unP_wr hk]
        by_cases hE : betE who o B = 0
        · have hW : wrE B (newP who o B) (let' o B) = 0 := by
            refine Bm.wrE_zero.2 ⟨k2, ?_, Bm.putE_zero.2 (Or.inr (by omega))⟩
            rw [leaf_not (new_at J.ok hh hE).2]; rfl
          rw [if_neg (by simpa using hE), if_neg (by simpa using hW), if_neg (by simpa using hE)]
          exact un_same r k (wrB who o B) _ hm2 (J.write hk hE) (by rw [(wr_ok J.ok hh hE k2).2]; omega)
        · rw [if_pos hE, if_pos hE]
          exact ⟨rfl, by simp [hE], by simp only; omega⟩
    · rw [List.filter_cons, if_neg (by simpa using hw)]
      have hk : kind S who o B L = 0 := by unfold kind; rw [if_pos (Or.inl hw)]
      rw [und_skip hk]
      exact un_same r (k + 1) B L hm2 J (by omega)
theorem jn_start {S : Dq} (I : Inv S) : Jn S S.book [] := ⟨ok_book I.book, I.st, fun p hp => absurd rfl hp⟩
theorem back_same {S : Dq} (I : Inv S) (who n : Int) (h : S.book.length + S.ops.length ≤ 300) : unE S who n = undE S who n ∧ (unE S who n = 0 → unL S who n = undL S who n) ∧ (undE S who n ≠ 0 → undL S who n = []) := by
  obtain ⟨h1, h2, h3⟩ := un_same (S := S) (who := who) S.ops.reverse n.toNat S.book [] (fun o ho => List.mem_reverse.1 ho) (jn_start I) (by rw [List.length_reverse]; exact h)
  rw [List.filter_reverse] at h1 h2 h3
  unfold unE undE unL undL mine endE
  by_cases hc : Pm.isWho who = false ∨ n < 0 ∨ 200 < n
  · rw [if_pos hc, if_pos hc, if_pos hc]; exact ⟨rfl, fun e => by omega, fun _ => rfl⟩
  · rw [if_neg hc, if_neg hc, if_neg hc, ← h1]
    by_cases h0 : (und S who S.ops.reverse n.toNat S.book []).1 = 0
    · rw [if_neg (by simpa using h0), if_neg (by omega)]
      rw [h0, if_pos rfl] at h2
      exact ⟨h0.symm, fun _ => h2.symm, fun e => absurd h0 e⟩
    · rw [if_pos h0]
      rw [if_neg h0] at h2
      exact ⟨rfl, fun e => absurd e h0, fun _ => h2⟩

end Bf
end Go.Proofs.YtlmdchpbpgcfmaaGreat
