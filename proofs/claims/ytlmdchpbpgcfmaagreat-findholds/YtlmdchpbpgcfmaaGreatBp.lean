/- The plain mathematics of what is taken back: a text that was just written, a letter that was just struck. No program is named here. -/
import Derived.Test.YtlmdchpbpgcfmaaGreatBf
namespace Go.Proofs.YtlmdchpbpgcfmaaGreat
namespace Bp
set_option linter.unusedVariables false
open Cm Om Hm Um Ba Bf
open Op (bytesLess)
open Bm (Leaf none0 ahd has leafAt bookE isL putE putL stX wrX wrE Rise leafE isS)

/- the leaf in the middle -/
theorem mid {A C : List Leaf} {x : Leaf} {p : ByteArray} (h : Ok (A ++ x :: C)) (hx : x.1 = p) : ahd (A ++ x :: C) p.toList = A.length ∧ has (A ++ x :: C) p.toList = true ∧ leafAt (A ++ x :: C) p = x := by
  have hg : (A ++ x :: C).getD A.length none0 = x := by rw [List.getD_eq_getElem?_getD, List.getElem?_append_right (Nat.le_refl _)]; simp
  have e : ahd (A ++ x :: C) p.toList = A.length := by
    refine Bm.ahead_eq h.rise (by simp) (fun j hj => ?_) (fun j hj hl => ?_)
    · have := Bm.rise_lt h.rise hj (show A.length < (A ++ x :: C).length by simp)
      rw [hg, hx] at this; exact this
    · rcases Nat.lt_or_eq_of_le hj with q | q
      · have := Bm.rise_lt h.rise q hl
        rw [hg, hx] at this; exact Bm.less_asymm this
      · rw [← q, hg, hx]; exact Bm.less_irrefl _
  have hh : has (A ++ x :: C) p.toList = true := by
    unfold has; rw [e, hg, hx]; simp
  exact ⟨e, hh, by rw [leaf_get hh, e, hg]⟩
theorem st_mid {A C : List Leaf} {x : Leaf} {o : Ox} (h : Ok (A ++ x :: C)) (hx : x.1 = o.2.2.1) : stB o (A ++ x :: C) = A ++ (x.1, x.2.1, true) :: C := by
  obtain ⟨e, hh, hl⟩ := mid h hx
  rw [st_set h hh, ← leaf_get hh, hl, e]
  simp
def stk (x : Leaf) : Leaf := (x.1, x.2.1, true)
theorem stk_text (l : List Leaf) : Bm.text (l.map stk) = [] := by
  induction l with
  | nil => rfl
  | cons x l ih => rw [List.map_cons, Bm.text_cons, if_neg (by unfold isS stk; simp)]; exact ih
/- leafs of which the last r are struck, one by one, the last first -/
def lastS (P Q nw : List Leaf) (r : Nat) : List Leaf := P ++ nw.take (nw.length - r) ++ (nw.drop (nw.length - r)).map stk ++ Q
theorem lastS_zero (P Q nw : List Leaf) : lastS P Q nw 0 = P ++ nw ++ Q := by unfold lastS; simp
theorem lastS_len {P Q nw : List Leaf} (r : Nat) : (lastS P Q nw r).length = P.length + nw.length + Q.length := by unfold lastS; simp; omega
theorem last_split {P Q nw : List Leaf} {r : Nat} (hr : r < nw.length) : lastS P Q nw r = (P ++ nw.take (nw.length - (r + 1))) ++ nw.getD (nw.length - (r + 1)) none0 :: ((nw.drop (nw.length - r)).map stk ++ Q) := by
  unfold lastS
  have e : nw.take (nw.length - r) = nw.take (nw.length - (r + 1)) ++ [nw.getD (nw.length - (r + 1)) none0] := by
    rw [show nw.length - r = nw.length - (r + 1) + 1 by omega]
    exact take_leaf (by omega)
  rw [e]; simp
theorem last_next {P Q nw : List Leaf} {r : Nat} (hr : r < nw.length) : lastS P Q nw (r + 1) = (P ++ nw.take (nw.length - (r + 1))) ++ stk (nw.getD (nw.length - (r + 1)) none0) :: ((nw.drop (nw.length - r)).map stk ++ Q) := by
  unfold lastS
  have e : nw.drop (nw.length - (r + 1)) = nw.getD (nw.length - (r + 1)) none0 :: nw.drop (nw.length - r) := by
    have hl : nw.length - (r + 1) < nw.length := by omega
    rw [List.drop_eq_getElem_cons hl, List.getD_eq_getElem?_getD, List.getElem?_eq_getElem hl, show nw.length - (r + 1) + 1 = nw.length - r by omega]; rfl
  rw [e]; simp
theorem last_text {P Q nw : List Leaf} (r : Nat) : Bm.text (lastS P Q nw r) = Bm.text P ++ Bm.text (nw.take (nw.length - r)) ++ Bm.text Q := by
  unfold lastS
  rw [Bm.text_append, Bm.text_append, Bm.text_append, stk_text, List.append_nil]
theorem stk_st {x : Leaf} {o : Ox} {A C : List Leaf} (h : Ok (A ++ x :: C)) (hx : x.1 = o.2.2.1) : stB o (A ++ x :: C) = A ++ stk x :: C := st_mid h hx

/- a text that was just written -/
def ys (who N : Int) (pl : Nat → ByteArray) (m : Nat) (r : Nat) : List Ox := (List.range r).map fun (i : Nat) => ((who, N + 1 + (i : Int)), 2, pl (m - (i + 1)), 0, [])
theorem ys_next (who N : Int) (pl : Nat → ByteArray) (m r : Nat) : ys who N pl m (r + 1) = ys who N pl m r ++ [((who, N + 1 + r), 2, pl (m - (r + 1)), 0, [])] := by
  unfold ys; rw [List.range_succ, List.map_append]; rfl
theorem ys_len (who N : Int) (pl : Nat → ByteArray) (m r : Nat) : (ys who N pl m r).length = r := by unfold ys; simp
structure Wrote (S S1 : Dq) (who : Int) (P Q nw : List Leaf) (L0 : List Ox) : Prop where
  book : S1.book = P ++ nw ++ Q
  ops : S1.ops = S.ops ++ L0
  len : L0.length = nw.length
  op : ∀ k, k < nw.length → (L0.getD k oz).1.1 = who ∧ (L0.getD k oz).2.1 = 1 ∧ (L0.getD k oz).2.2.1 = (nw.getD k none0).1
  seen : ∀ x ∈ nw, isS x = true
  inv : Inv S1
theorem mine_of {S S1 : Dq} {who : Int} {P Q nw : List Leaf} {L0 : List Ox} (h : Wrote S S1 who P Q nw L0) : (mine S1 who).reverse = L0.reverse ++ (mine S who).reverse := by
  unfold mine
  rw [h.ops, List.filter_append, List.reverse_append]
  congr 2
  rw [List.filter_eq_self]
  intro o ho
  obtain ⟨k, hk, e⟩ := List.mem_iff_getElem.1 ho
  have := (h.op k (by rw [← h.len]; exact hk)).1
  rw [List.getD_eq_getElem?_getD, List.getElem?_eq_getElem hk] at this
  simp only [Option.getD_some] at this
  rw [e] at this; simpa using this
theorem last_ok {S S1 : Dq} {who : Int} {P Q nw : List Leaf} {L0 : List Ox} (h : Wrote S S1 who P Q nw L0) : ∀ r, r ≤ nw.length → Ok (lastS P Q nw r)
  | 0, _ => by rw [lastS_zero, ← h.book]; exact ok_book h.inv.book
  | r + 1, hr => by
    have ih := last_ok h r (by omega)
    have hl := last_split (P := P) (Q := Q) (nw := nw) (r := r) (by omega)
    rw [hl] at ih
    rw [last_next (by omega)]
    obtain ⟨e, hh, hle⟩ := mid ih (p := (nw.getD (nw.length - (r + 1)) none0).1) rfl
    have := (st_ok ih (o := ((0, 0), 0, (nw.getD (nw.length - (r + 1)) none0).1, 0, [])) hh).1
    rw [stk_st ih rfl] at this; exact this
theorem kind_last {S S1 : Dq} {who : Int} {P Q nw : List Leaf} {L0 : List Ox} (h : Wrote S S1 who P Q nw L0) {r : Nat} (hr : r < nw.length) : kindP S1 (L0.getD (nw.length - (r + 1)) oz) (lastS P Q nw r) = 1 ∧ stB (L0.getD (nw.length - (r + 1)) oz) (lastS P Q nw r) = lastS P Q nw (r + 1) := by
  have ok := last_ok h r (by omega)
  rw [last_split (by omega)] at ok ⊢
  obtain ⟨o1, o2, o3⟩ := h.op (nw.length - (r + 1)) (by omega)
  obtain ⟨e, hh, hle⟩ := mid ok (p := (L0.getD (nw.length - (r + 1)) oz).2.2.1) o3.symm
  refine ⟨?_, ?_⟩
  · unfold kindP
    rw [hh, if_neg (by simp), hle, if_pos ⟨o2, h.seen _ (Bm.getD_mem (by omega))⟩]
  · rw [stk_st ok o3.symm, last_next (by omega)]
def plc (nw : List Leaf) (k : Nat) : ByteArray := (nw.getD k none0).1
theorem un_last {S S1 : Dq} {who : Int} {P Q nw : List Leaf} {L0 : List Ox} (h : Wrote S S1 who P Q nw L0) (R : List Ox) (n : Nat) : ∀ r, r ≤ nw.length → r ≤ n →
    unP S1 who (L0.reverse ++ R) n S1.book [] = unP S1 who ((L0.take (nw.length - r)).reverse ++ R) (n - r) (lastS P Q nw r) (ys who (kn S1 who) (plc nw) nw.length r)
  | 0, _, _ => by rw [lastS_zero, h.book, Nat.sub_zero, Nat.sub_zero, ← h.len, List.take_length]; rfl
  | r + 1, hr, hn => by
    rw [un_last h R n r (by omega) (by omega)]
    have hl : L0.length = nw.length := h.len
    have e : (L0.take (nw.length - r)).reverse = L0.getD (nw.length - (r + 1)) oz :: (L0.take (nw.length - (r + 1))).reverse := by
      rw [show nw.length - r = nw.length - (r + 1) + 1 by omega, List.take_succ_eq_append_getElem (by omega), List.reverse_append, List.getD_eq_getElem?_getD, List.getElem?_eq_getElem (by omega)]; rfl
    obtain ⟨k1, k2⟩ := kind_last h (r := r) (by omega)
    rw [e, List.cons_append, show n - r = n - (r + 1) + 1 by omega, unP_st k1, k2, ys_next]
    congr 2
    unfold stO
    rw [ys_len, (h.op (nw.length - (r + 1)) (by omega)).2.2]; rfl
/- the strikes, done one by one -/
theorem run_last {S S1 : Dq} {who : Int} {P Q nw : List Leaf} {L0 : List Ox} (h : Wrote S S1 who P Q nw L0) (w1 : 1 ≤ who) (w8 : who ≤ 8) (ho : S1.ops.length + nw.length ≤ 400) : ∀ r, r ≤ nw.length →
    runE S1 (ys who (kn S1 who) (plc nw) nw.length r) = 0 ∧ (runS S1 (ys who (kn S1 who) (plc nw) nw.length r)).book = lastS P Q nw r
  | 0, _ => by rw [lastS_zero, ← h.book]; exact ⟨rfl, rfl⟩
  | r + 1, hr => by
    obtain ⟨i1, i2⟩ := run_last h w1 w8 ho r (by omega)
    have hnx : Nexts who (kn S1 who) (ys who (kn S1 who) (plc nw) nw.length r) := nexts_of _ _ fun k hk => by
      rw [ys_len] at hk
      unfold ys
      rw [List.getD_eq_getElem?_getD, List.getElem?_map, List.getElem?_range hk]; rfl
    obtain ⟨r1, r2⟩ := run_new w1 w8 _ h.inv hnx i1
    have hT := run_inv (ys who (kn S1 who) (plc nw) nw.length r) h.inv
    have hlen := ys_len who (kn S1 who) (plc nw) nw.length (r + 1)
    have htk : (ys who (kn S1 who) (plc nw) nw.length (r + 1)).take r = ys who (kn S1 who) (plc nw) nw.length r := by
      rw [ys_next, List.take_left' (ys_len _ _ _ _ _)]
    have hkl : r < (ys who (kn S1 who) (plc nw) nw.length (r + 1)).length := by rw [hlen]; omega
    obtain ⟨g1, g2⟩ := run_go (S := S1) hkl (by rw [htk]; exact i1)
    rw [htk] at g1 g2
    have hge : (ys who (kn S1 who) (plc nw) nw.length (r + 1)).getD r oz = ((who, kn S1 who + 1 + r), 2, plc nw (nw.length - (r + 1)), 0, []) := by
      rw [ys_next, List.getD_eq_getElem?_getD, List.getElem?_append_right (by rw [ys_len]; exact Nat.le_refl _), ys_len]; simp
    rw [hge] at g1 g2
    have hall : (ys who (kn S1 who) (plc nw) nw.length (r + 1)).take (r + 1) = ys who (kn S1 who) (plc nw) nw.length (r + 1) := List.take_of_length_le (by rw [hlen]; exact Nat.le_refl _)
    rw [hall] at g1 g2
    obtain ⟨T, hTe⟩ : ∃ T, T = runS S1 (ys who (kn S1 who) (plc nw) nw.length r) := ⟨_, rfl⟩
    rw [← hTe] at g1 g2 i2 r1 r2 hT
    obtain ⟨n0, n1⟩ := kn_le h.inv w1 w8
    have ok := last_ok h r (by omega)
    have hsp := last_split (P := P) (Q := Q) (nw := nw) (r := r) (by omega)
    rw [hsp] at ok
    obtain ⟨_, hh, hle⟩ := mid ok (p := plc nw (nw.length - (r + 1))) rfl
    rw [← hsp, ← i2] at hh hle
    have hchk : Pm.chk (plc nw (nw.length - (r + 1))).toList = 0 := by
      have := (Bm.leafE_zero.1 (ok.leaf (nw.getD (nw.length - (r + 1)) none0) (by simp))).1
      exact this
    have hop : opE ((who, kn S1 who + 1 + r), 2, plc nw (nw.length - (r + 1)), 0, []) = 0 := by
      refine opE_zero.2 ⟨dotE_iff.2 ⟨w1, w8, ?_, ?_⟩, ⟨by show (1 : Int) ≤ 2; decide, by show (2 : Int) ≤ 4; decide⟩, hchk, lawOf_zero.2 ⟨fun e => absurd (show (2 : Int) = 1 from e) (by decide), fun _ => rfl, fun _ => rfl, Nat.zero_le _, rfl⟩⟩
      · show 1 ≤ kn S1 who + 1 + (r : Int); omega
      · show kn S1 who + 1 + (r : Int) ≤ 9999; omega
    have hse : Bm.strikeE T.book (plc nw (nw.length - (r + 1))) = 0 := Bm.strikeE_zero.2 ⟨Bm.withE_zero.2 ⟨hT.book, hchk⟩, Bm.putE_zero.2 (Or.inl hh)⟩
    have hdo : doE T ((who, kn S1 who + 1 + r), 2, plc nw (nw.length - (r + 1)), 0, []) = 0 := by
      unfold doE; rw [if_neg (show ¬ (2 : Int) = 1 by decide), if_pos rfl]; exact hse
    have hops : T.ops.length < 400 := by rw [r1, List.length_append, ys_len]; omega
    obtain ⟨e1, e2⟩ := ap_ok (S := T) hop (by show kn T who + 1 = kn S1 who + 1 + (r : Int); rw [r2 who w1 w8, if_pos rfl, ys_len]; omega) hops hdo
    rw [e1] at g1
    refine ⟨g1, ?_⟩
    rw [g2 e1, e2]
    show doB T ((who, kn S1 who + 1 + r), 2, plc nw (nw.length - (r + 1)), 0, []) = _
    unfold doB
    rw [if_neg (show ¬ (2 : Int) = 1 by decide), if_pos rfl, (Bm.strike_book hse).2]
    show stB ((who, kn S1 who + 1 + r), 2, plc nw (nw.length - (r + 1)), 0, []) T.book = _
    rw [i2, hsp, stk_st ok rfl, last_next (by omega)]

/- the places of what is taken back are no longer than places are -/
theorem chk_size {p : ByteArray} (h : Pm.chk p.toList = 0) : p.size ≤ 12 := by
  have := (Bm.chk_pos h).2
  rw [Om.len_eq] at this; exact this
theorem un_small {S : Dq} {who : Int} : ∀ (l : List Ox) (k : Nat) (B : List Leaf) (L : List Ox), Ok B → (∀ x ∈ L, x.2.2.1.size ≤ 12) → ∀ x ∈ (unP S who l k B L).2.1, x.2.2.1.size ≤ 12
  | [], k, B, L, _, hL => hL
  | o :: r, 0, B, L, _, hL => by rw [unP_none]; exact hL
  | o :: r, k + 1, B, L, ok, hL => by
    rcases kind_le S o B with hk | hk | hk
    · rw [unP_skip hk]; exact un_small r (k + 1) B L ok hL
    · have hh := kind_has (S := S) (o := o) (B := B) (by omega)
      rw [unP_st hk]
      refine un_small r k (stB o B) _ (st_ok ok hh).1 fun x hx => ?_
      rcases List.mem_append.1 hx with hx | hx
      · exact hL x hx
      · rw [List.mem_singleton.1 hx]
        obtain ⟨h1, h2⟩ := leaf_ok ok hh
        have := (Bm.leafE_zero.1 h1).1
        rw [h2] at this; exact chk_size this
    · have hh := kind_has (S := S) (o := o) (B := B) (by omega)
      rw [unP_wr hk]
      by_cases hE : betE who o B = 0
      · rw [if_neg (by simpa using hE)]
        refine un_small r k (wrB who o B) _ (wr_ok ok hh hE (kind_two hk).2.1).1 fun x hx => ?_
        rcases List.mem_append.1 hx with hx | hx
        · exact hL x hx
        · rw [List.mem_singleton.1 hx]
          exact chk_size (step_ok hE).chk
      · rw [if_pos hE]; intro x hx; cases hx
theorem unL_small {S : Dq} (I : Inv S) (who n : Int) : ∀ x ∈ unL S who n, x.2.2.1.size ≤ maxLen := fun x hx => by
  have := un_small _ _ _ _ (ok_book I.book) (fun y hy => by cases hy) x hx
  unfold maxLen; omega

/- an insert is such a text -/
theorem news_get {a b : ByteArray} {who : Int} {t : ByteArray} {m k : Nat} (hk : k < m) : (news a b who t m).getD k none0 = (nthP a b who (k + 1), ((t.toList.getD k 0).toNat : Int), false) := by
  unfold news
  rw [List.getD_eq_getElem?_getD, List.getElem?_map, List.getElem?_range hk]; rfl
theorem wrote_ins {S : Dq} {who off : Int} {t : ByteArray} (I : Inv S) (h : InsOk S who off t) (hl : S.book.length + t.size ≤ 300) (ho : S.ops.length + t.size ≤ 400) :
    runE S (insL S who off t) = 0 ∧ Wrote S (runS S (insL S who off t)) who (S.book.take (nxt S.book off.toNat)) (S.book.drop (nxt S.book off.toNat)) (news (leftP S.book off.toNat) (rightP S.book off.toNat) who t t.size) (insL S who off t) := by
  obtain ⟨h1, h2, _⟩ := ins_run I h hl ho t.size (Nat.le_refl _)
  have e : (insL S who off t).take t.size = insL S who off t := by rw [List.take_of_length_le]; rw [insL_len]; exact Nat.le_refl _
  rw [e] at h1 h2
  obtain ⟨r1, _⟩ := run_new h.who1 h.who8 _ I (insL_next S who off t) h1
  refine ⟨h1, h2, r1, by rw [insL_len, news_len], fun k hk => ?_, fun x hx => ?_, run_inv _ I⟩
  · rw [news_len] at hk
    rw [insL_at hk, news_get hk]; exact ⟨rfl, rfl, rfl⟩
  · obtain ⟨j, hj, rfl⟩ := news_mem hx
    have := (Bm.isL_ne (let_at h.lets hj)).1
    unfold isS; simpa using this
theorem ins_whole {S : Dq} {who off : Int} {t : ByteArray} (I : Inv S) (h : InsOk S who off t) (hl : S.book.length + t.size ≤ 300) (ho : S.ops.length + t.size ≤ 400) (m : Nat) (hm : m ≤ 200) (hR : m ≤ t.size ∨ mine S who = []) :
    unE (runS S (insL S who off t)) who m = 0 ∧ unL (runS S (insL S who off t)) who m = ys who (kn (runS S (insL S who off t)) who) (plc (news (leftP S.book off.toNat) (rightP S.book off.toNat) who t t.size)) t.size (min m t.size) := by
  obtain ⟨_, w⟩ := wrote_ins I h hl ho
  have hw : Pm.isWho who = true := by unfold Pm.isWho; simp [h.who1, h.who8]
  have hcond : ¬ (Pm.isWho who = false ∨ (m : Int) < 0 ∨ 200 < (m : Int)) := by rw [hw]; simp; omega
  have hnl := news_len (leftP S.book off.toNat) (rightP S.book off.toNat) who t t.size
  have key := un_last w (mine S who).reverse m (min m t.size) (by rw [hnl]; exact Nat.min_le_right _ _) (Nat.min_le_left _ _)
  rw [← mine_of w] at key
  have hend : unP (runS S (insL S who off t)) who (mine (runS S (insL S who off t)) who).reverse m (runS S (insL S who off t)).book [] = (0, ys who (kn (runS S (insL S who off t)) who) (plc (news (leftP S.book off.toNat) (rightP S.book off.toNat) who t t.size)) (news (leftP S.book off.toNat) (rightP S.book off.toNat) who t t.size).length (min m t.size), lastS (S.book.take (nxt S.book off.toNat)) (S.book.drop (nxt S.book off.toNat)) (news (leftP S.book off.toNat) (rightP S.book off.toNat) who t t.size) (min m t.size)) := by
    rw [key]
    by_cases hmt : m ≤ t.size
    · rw [Nat.min_eq_left hmt, Nat.sub_self, unP_none]
    · have hR2 : mine S who = [] := by rcases hR with e | e; exact absurd e hmt; exact e
      rw [hR2, Nat.min_eq_right (by omega), hnl, Nat.sub_self, List.take_zero]; rfl
  have hlen : ¬ 300 < (lastS (S.book.take (nxt S.book off.toNat)) (S.book.drop (nxt S.book off.toNat)) (news (leftP S.book off.toNat) (rightP S.book off.toNat) who t t.size) (min m t.size)).length := by
    rw [lastS_len, hnl, List.length_take, List.length_drop]
    have := (cut_off (off_nat h)).le
    omega
  constructor
  · unfold unE
    rw [if_neg hcond, Int.toNat_natCast, hend, end_ok hlen]
  · unfold unL
    rw [Int.toNat_natCast, hend, hnl]
theorem all_back {t : ByteArray} (hs : t.size ≤ 60) (h0 : insE d0 1 0 t = 0) (m : Nat) (hm : m ≤ 200) :
    unE (runS d0 (insL d0 1 0 t)) 1 m = 0 ∧ runE (runS d0 (insL d0 1 0 t)) (unL (runS d0 (insL d0 1 0 t)) 1 m) = 0 ∧ Bm.text (runS (runS d0 (insL d0 1 0 t)) (unL (runS d0 (insL d0 1 0 t)) 1 m)).book = t.toList.take (t.size - m) := by
  have h := insE_zero.1 h0
  obtain ⟨h1, w⟩ := wrote_ins inv_zero h (by show 0 + t.size ≤ 300; omega) (by show 0 + t.size ≤ 400; omega)
  obtain ⟨e1, e2⟩ := ins_whole inv_zero h (by show 0 + t.size ≤ 300; omega) (by show 0 + t.size ≤ 400; omega) m hm (Or.inr rfl)
  have hnl := news_len (leftP d0.book (0 : Int).toNat) (rightP d0.book (0 : Int).toNat) 1 t t.size
  have hops : (runS d0 (insL d0 1 0 t)).ops.length = t.size := by rw [w.ops, List.length_append, insL_len]; show 0 + t.size = t.size; omega
  obtain ⟨r1, r2⟩ := run_last w (by decide) (by decide) (by rw [hops, hnl]; omega) (min m t.size) (by rw [hnl]; exact Nat.min_le_right _ _)
  rw [hnl] at r1 r2
  rw [e2]
  refine ⟨e1, r1, ?_⟩
  rw [r2, last_text, hnl]
  have ep : (d0.book.take (nxt d0.book (0 : Int).toNat)) = [] := by show List.take _ [] = []; simp
  have eq : (d0.book.drop (nxt d0.book (0 : Int).toNat)) = [] := by show List.drop _ [] = []; simp
  rw [ep, eq]
  have et : (news (leftP d0.book (0 : Int).toNat) (rightP d0.book (0 : Int).toNat) 1 t t.size).take (t.size - min m t.size) = news (leftP d0.book (0 : Int).toNat) (rightP d0.book (0 : Int).toNat) 1 t (t.size - min m t.size) := by
    unfold news
    rw [← List.map_take, List.take_range, Nat.min_eq_left (by omega)]
  rw [et, (news_seen h.lets (t.size - min m t.size) (by omega)).1]
  simp only [Bm.text, List.filter_nil, List.map_nil, List.nil_append, List.append_nil]
  congr 1
  omega
theorem back_ins {S : Dq} {who off : Int} {t : ByteArray} (I : Inv S) (hb : S.book.length ≤ 60) (ho : S.ops.length ≤ 60) (h0 : insE S who off t = 0) :
    runE S (insL S who off t) = 0 ∧ unE (runS S (insL S who off t)) who (t.size : Int) = 0 ∧ (unL (runS S (insL S who off t)) who (t.size : Int)).length = t.size ∧
      (runE (runS S (insL S who off t)) (unL (runS S (insL S who off t)) who (t.size : Int)) = 0 → Bm.text (runS (runS S (insL S who off t)) (unL (runS S (insL S who off t)) who (t.size : Int))).book = Bm.text S.book) := by
  have h := insE_zero.1 h0
  have hf := h.few
  obtain ⟨h1, w⟩ := wrote_ins I h (by omega) (by omega)
  obtain ⟨e1, e2⟩ := ins_whole I h (by omega) (by omega) t.size hf (Or.inl (Nat.le_refl _))
  have hnl := news_len (leftP S.book off.toNat) (rightP S.book off.toNat) who t t.size
  rw [Nat.min_self] at e2
  refine ⟨h1, e1, by rw [e2, ys_len], fun hr => ?_⟩
  rw [e2] at hr ⊢
  have hnx : Nexts who (kn (runS S (insL S who off t)) who) (ys who (kn (runS S (insL S who off t)) who) (plc (news (leftP S.book off.toNat) (rightP S.book off.toNat) who t t.size)) t.size t.size) := nexts_of _ _ fun k hk => by
    rw [ys_len] at hk
    unfold ys
    rw [List.getD_eq_getElem?_getD, List.getElem?_map, List.getElem?_range hk]; rfl
  obtain ⟨q1, _⟩ := run_new h.who1 h.who8 _ w.inv hnx hr
  have hfew := (run_inv (ys who (kn (runS S (insL S who off t)) who) (plc (news (leftP S.book off.toNat) (rightP S.book off.toNat) who t t.size)) t.size t.size) w.inv).few
  rw [q1, List.length_append, ys_len] at hfew
  obtain ⟨_, r2⟩ := run_last w h.who1 h.who8 (by rw [hnl]; exact hfew) t.size (by rw [hnl]; exact Nat.le_refl _)
  rw [hnl] at r2
  rw [r2, last_text, hnl, Nat.sub_self, List.take_zero]
  show Bm.text _ ++ [] ++ Bm.text _ = _
  rw [List.append_nil, ← Bm.text_append, List.take_append_drop]

/- a letter that was just struck -/
theorem del_one {S : Dq} {who off : Int} (h0 : 0 ≤ off) (h1 : off < (seenP S.book).length) : delL S who off (off + 1) = [((who, kn S who + 1), 2, (seenP S.book).getD off.toNat ⟨#[]⟩, 0, [])] := by
  unfold delL delO delP
  rw [show (off + 1 - off).toNat = 1 by omega, show (off + 1).toNat = off.toNat + 1 by omega]
  have hl : off.toNat < (seenP S.book).length := by omega
  have e : ((seenP S.book).take (off.toNat + 1)).drop off.toNat = [(seenP S.book).getD off.toNat ⟨#[]⟩] := by
    rw [List.take_succ_eq_append_getElem hl, List.drop_left' (by rw [List.length_take]; omega), List.getD_eq_getElem?_getD, List.getElem?_eq_getElem hl]; rfl
  rw [e]
  simp [List.range_succ]
theorem back_del {S : Dq} {who off : Int} (I : Inv S) (w1 : 1 ≤ who) (w8 : who ≤ 8) (h0 : 0 ≤ off) (h1 : off < (seenP S.book).length) (hr : runE S (delL S who off (off + 1)) = 0) (hu : unE (runS S (delL S who off (off + 1))) who 1 = 0) :
    (unL (runS S (delL S who off (off + 1))) who 1).length = 1 ∧
      (runE (runS S (delL S who off (off + 1))) (unL (runS S (delL S who off (off + 1))) who 1) = 0 → Bm.text (runS (runS S (delL S who off (off + 1))) (unL (runS S (delL S who off (off + 1))) who 1)).book = Bm.text S.book) := by
  rw [del_one h0 h1] at hr hu ⊢
  obtain ⟨A, x, C, hb, hx, hA⟩ := split_seen S.book off.toNat (by omega)
  obtain ⟨_, _, a3⟩ := at_parts (A := A) (B := C) hx
  rw [hA, ← hb] at a3
  rw [a3] at hr hu ⊢
  obtain ⟨p, l, s⟩ := x
  have hs : s = false ∧ l ≠ 0 := by unfold isS at hx; simp at hx; exact ⟨hx.2, hx.1⟩
  obtain ⟨rfl, hl0⟩ := hs
  dsimp only at hr hu ⊢
  have okS : Ok (A ++ (p, l, false) :: C) := by rw [← hb]; exact ok_book I.book
  obtain ⟨m1, m2, m3⟩ := mid okS (p := p) rfl
  have hleaf := Bm.leafE_zero.1 (okS.leaf (p, l, false) (by simp))
  have hlet : isL l = true := by rcases hleaf.2.1 with e | e; exact absurd e hl0; exact e
  obtain ⟨o, ho⟩ : ∃ o : Ox, o = ((who, kn S who + 1), 2, p, 0, []) := ⟨_, rfl⟩
  rw [← ho] at hr hu ⊢
  have hap : apE S o = 0 := by
    by_cases e : apE S o = 0
    · exact e
    · simp only [runE, if_pos e] at hr; exact absurd hr e
  have hnew : isNew S o = true := new_of (by rw [ho]) hap
  have eS : runS S [o] = next S o := by
    simp only [runS, if_neg (show ¬ apE S o ≠ 0 by simpa using hap)]
    unfold apS; rw [hnew, if_pos rfl]
  rw [eS] at hu ⊢
  have I1 : Inv (next S o) := inv_next I hnew
  have hdo := (isNew_iff.1 hnew).2.2.2
  have hse : Bm.strikeE S.book p = 0 := by
    rw [ho] at hdo; unfold doE at hdo
    rw [if_neg (show ¬ (2 : Int) = 1 by decide), if_pos rfl] at hdo; exact hdo
  have hbk : (next S o).book = A ++ (p, l, true) :: C := by
    show doB S o = _
    rw [ho]; unfold doB
    rw [if_neg (show ¬ (2 : Int) = 1 by decide), if_pos rfl, (Bm.strike_book hse).2]
    show stB ((who, kn S who + 1), 2, p, 0, []) S.book = _
    rw [hb, st_mid okS rfl]
  have ok1 : Ok (A ++ (p, l, true) :: C) := by rw [← hbk]; exact ok_book I1.book
  obtain ⟨n1, n2, n3⟩ := mid ok1 (p := p) rfl
  have hops : (next S o).ops = S.ops ++ [o] := rfl
  have hcnt : cnt (next S o).ops p = 1 := by
    rw [hops, cnt_append]
    have c0 : cnt S.ops p = 0 := cnt_none fun y hy h2 e => by
      have := I.st y hy h2
      rw [e, hb, m3] at this; cases this
    have c1 : cnt [o] p = 1 := by rw [ho]; unfold cnt; simp
    rw [c0, c1]
  have hmine : (mine (next S o) who).reverse = o :: (mine S who).reverse := by
    unfold mine
    rw [hops, List.filter_append, List.reverse_append]
    rw [show [o].filter (fun y => decide (y.1.1 = who)) = [o] by rw [ho]; simp]; rfl
  have hop : o.2.2.1 = p := by rw [ho]
  have hk : kindP (next S o) o (next S o).book = 2 := by
    unfold kindP
    rw [hop, hbk, n2, if_neg (by simp), n3, if_neg (by rw [ho]; simp), if_pos ⟨by rw [ho], hlet, hcnt⟩]
  have hhas : has (next S o).book o.2.2.1.toList = true := by rw [hop, hbk]; exact n2
  have hwho : Pm.isWho who = true := by unfold Pm.isWho; simp [w1, w8]
  have hcond : ¬ (Pm.isWho who = false ∨ (1 : Int) < 0 ∨ 200 < (1 : Int)) := by rw [hwho]; simp
  have hun : unP (next S o) who (mine (next S o) who).reverse (1 : Int).toNat (next S o).book [] = if betE who o (next S o).book ≠ 0 then (betE who o (next S o).book, [], (next S o).book) else (0, [wrO (next S o) who o (next S o).book []], wrB who o (next S o).book) := by
    rw [hmine, show (1 : Int).toNat = 0 + 1 from rfl, unP_wr hk, unP_none]; rfl
  unfold unE at hu
  rw [if_neg hcond, hun] at hu
  have hE : betE who o (next S o).book = 0 := by
    refine Decidable.byContradiction fun e => ?_
    rw [if_pos e, end_err e] at hu; exact e hu
  have hL : unL (next S o) who 1 = [wrO (next S o) who o (next S o).book []] := by
    unfold unL; rw [hun, if_neg (by simpa using hE)]
  rw [hL]
  refine ⟨rfl, fun hr2 => ?_⟩
  obtain ⟨z, hz⟩ : ∃ z, z = wrO (next S o) who o (next S o).book [] := ⟨_, rfl⟩
  rw [← hz] at hr2 ⊢
  have hkn : kn (next S o) z.1.1 + 1 = z.1.2 := by rw [hz]; unfold wrO; simp
  have hap2 : apE (next S o) z = 0 := by
    by_cases e : apE (next S o) z = 0
    · exact e
    · simp only [runE, if_pos e] at hr2; exact absurd hr2 e
  have hnew2 : isNew (next S o) z = true := new_of hkn hap2
  have eS2 : runS (next S o) [z] = next (next S o) z := by
    simp only [runS, if_neg (show ¬ apE (next S o) z ≠ 0 by simpa using hap2)]
    unfold apS; rw [hnew2, if_pos rfl]
  rw [eS2]
  have hdo2 := (isNew_iff.1 hnew2).2.2.2
  have hz2 : z.2.1 = 1 := by rw [hz]; rfl
  have hwe : Bm.writeE (next S o).book (newP who o (next S o).book) (let' o (next S o).book) = 0 := by
    unfold doE at hdo2
    rw [if_pos hz2, hz] at hdo2; exact hdo2
  have hbk2 : (next (next S o) z).book = wrB who o (next S o).book := by
    show doB (next S o) z = _
    unfold doB
    rw [if_pos hz2, hz]
    show Bm.writeL (next S o).book (newP who o (next S o).book) (let' o (next S o).book) = _
    rw [(Bm.write_book hwe).2]; rfl
  have okn := ok_book I1.book
  have hlt : let' o (next S o).book = l := by unfold let'; rw [hop, hbk, n3]
  rw [hbk2, wr_ins okn hhas hE, hop, hlt, hbk, n1, hb]
  unfold insB
  rw [show A ++ (p, l, true) :: C = (A ++ [(p, l, true)]) ++ C by simp, List.take_left' (by simp), List.drop_left' (by simp), Bm.text_append, Bm.text_append, Bm.text_cons, Bm.text_cons, Bm.text_append, Bm.text_cons]
  have i1 : isS ((p, l, true) : Leaf) = false := by unfold isS; simp
  have i2 : isS ((p, l, false) : Leaf) = true := hx
  have i3 : ∀ q : ByteArray, isS ((q, l, false) : Leaf) = true := fun q => hx
  rw [i1, i2, i3]
  simp [Bm.text, Bm.letter]

end Bp
end Go.Proofs.YtlmdchpbpgcfmaaGreat
