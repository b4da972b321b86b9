/- The plain mathematics of a delete: what is seen behind it; of a replacement: which ops it is. No program is named here. -/
import Derived.Test.YtlmdchpbpgcfmaaGreatBf
import Derived.Test.YtlmdchpbpgcfmaaGreatBp
import Derived.Test.YtlmdchpbpgcfmaaGreatFi
namespace Go.Proofs.YtlmdchpbpgcfmaaGreat
namespace Fj
set_option linter.unusedVariables false
open Cm Om Hm Um Ba Bf Bp
open Bm (Leaf none0 bookE isS)

/- the leafs that are seen -/
def seenX (l : List Leaf) : List Leaf := l.filter isS
theorem seenX_append (a b : List Leaf) : seenX (a ++ b) = seenX a ++ seenX b := by unfold seenX; rw [List.filter_append]
theorem seenX_text (l : List Leaf) : Bm.text l = (seenX l).map Bm.letter := rfl
theorem seenX_place (l : List Leaf) : seenP l = (seenX l).map (·.1) := rfl
theorem seenX_len (l : List Leaf) : (seenX l).length = (seenP l).length := by rw [seenX_place, List.length_map]
theorem st_seen {B : List Leaf} (ok : Ok B) {o : Ox} {r : Nat} (hr : r < (seenP B).length) (hp : o.2.2.1 = (seenP B).getD r ⟨#[]⟩) : seenX (stB o B) = (seenX B).eraseIdx r := by
  obtain ⟨A, x, C, rfl, hx, hA⟩ := split_seen B r hr
  obtain ⟨_, _, a3⟩ := at_parts (A := A) (B := C) hx
  rw [hA] at a3
  rw [st_mid ok (hp.trans a3).symm, seenX_append, seenX_append]
  have e1 : seenX (x :: C) = x :: seenX C := by unfold seenX; rw [List.filter_cons, if_pos hx]
  have e2 : seenX ((x.1, x.2.1, true) :: C) = seenX C := by unfold seenX; rw [List.filter_cons, if_neg (by unfold isS; simp)]
  rw [e1, e2, List.eraseIdx_append_of_length_le (by rw [seenX_len, hA]; exact Nat.le_refl _), seenX_len, hA, Nat.sub_self]
  rfl
theorem take_drop_erase {L : List Leaf} {a k : Nat} (h : a + k < L.length) : (L.take a ++ L.drop (a + k)).eraseIdx a = L.take a ++ L.drop (a + (k + 1)) := by
  have hl : (L.take a).length = a := by rw [List.length_take]; omega
  rw [List.eraseIdx_append_of_length_le (by omega), hl, Nat.sub_self, List.drop_eq_getElem_cons h]
  rfl
theorem delP_at {S : Dq} {a n k : Nat} (hk : k < n) : (delP S a ((a + n : Nat) : Int)).getD k ⟨#[]⟩ = (seenP S.book).getD (a + k) ⟨#[]⟩ := by
  unfold delP
  simp only [Int.toNat_natCast, List.getD_eq_getElem?_getD, List.getElem?_drop]
  rw [List.getElem?_take_of_lt (by omega)]
theorem delL_len (S : Dq) (who : Int) (a n : Nat) : (delL S who a ((a + n : Nat) : Int)).length = n := by
  unfold delL; rw [List.length_map, List.length_range]; omega
theorem delL_at {S : Dq} {who : Int} {a n k : Nat} (hk : k < n) : (delL S who a ((a + n : Nat) : Int)).getD k oz = ((who, kn S who + 1 + k), 2, (seenP S.book).getD (a + k) ⟨#[]⟩, 0, []) := by
  unfold delL
  rw [List.getD_eq_getElem?_getD, List.getElem?_map, List.getElem?_range (by omega)]
  show delO _ _ _ _ = _
  unfold delO
  rw [delP_at hk]
theorem delL_next (S : Dq) (who : Int) (a n : Nat) : Nexts who (kn S who) (delL S who a ((a + n : Nat) : Int)) := nexts_of _ _ fun k hk => by
  rw [delL_len] at hk
  rw [delL_at hk]
/- what is seen behind the first k strikes of a delete -/
theorem del_seen {S : Dq} {who : Int} {a n : Nat} (I : Inv S) (w1 : 1 ≤ who) (w8 : who ≤ 8) (h : a + n ≤ (seenP S.book).length) (hr : runE S (delL S who a ((a + n : Nat) : Int)) = 0) : ∀ k, k ≤ n →
    runE S ((delL S who a ((a + n : Nat) : Int)).take k) = 0 ∧ seenX (runS S ((delL S who a ((a + n : Nat) : Int)).take k)).book = (seenX S.book).take a ++ (seenX S.book).drop (a + k)
  | 0, _ => by
    rw [List.take_zero, Nat.add_zero, List.take_append_drop]; exact ⟨rfl, rfl⟩
  | k + 1, hk => by
    obtain ⟨i1, i2⟩ := del_seen I w1 w8 h hr k (by omega)
    have hkl : k < (delL S who a ((a + n : Nat) : Int)).length := by rw [delL_len]; omega
    obtain ⟨g1, g2⟩ := run_go (S := S) hkl i1
    have hap : apE (runS S ((delL S who a ((a + n : Nat) : Int)).take k)) ((delL S who a ((a + n : Nat) : Int)).getD k oz) = 0 := by
      refine Decidable.byContradiction fun e => ?_
      have := (run_stop hkl i1 e).1
      rw [hr] at this; exact e this.symm
    have hT := run_inv ((delL S who a ((a + n : Nat) : Int)).take k) I
    obtain ⟨r1, r2⟩ := run_new w1 w8 _ I (nexts_take _ _ k (delL_next S who a n)) i1
    have hlen : ((delL S who a ((a + n : Nat) : Int)).take k).length = k := by rw [List.length_take, delL_len]; omega
    refine ⟨by rw [g1]; exact hap, ?_⟩
    rw [g2 hap]
    obtain ⟨T, hTe⟩ : ∃ T, T = runS S ((delL S who a ((a + n : Nat) : Int)).take k) := ⟨_, rfl⟩
    rw [← hTe] at hap i2 hT r2 ⊢
    rw [delL_at (show k < n by omega)] at hap ⊢
    have hnew := new_of (S := T) (o := ((who, kn S who + 1 + k), 2, (seenP S.book).getD (a + k) ⟨#[]⟩, 0, [])) (by
      show kn T who + 1 = kn S who + 1 + (k : Int)
      rw [r2 who w1 w8, if_pos rfl, hlen]; omega) hap
    have e : apS T ((who, kn S who + 1 + k), 2, (seenP S.book).getD (a + k) ⟨#[]⟩, 0, []) = next T ((who, kn S who + 1 + k), 2, (seenP S.book).getD (a + k) ⟨#[]⟩, 0, []) := by unfold apS; rw [hnew, if_pos rfl]
    rw [e]
    have hdo := (isNew_iff.1 hnew).2.2.2
    have hse : Bm.strikeE T.book ((seenP S.book).getD (a + k) ⟨#[]⟩) = 0 := by
      unfold doE at hdo
      rw [if_neg (show ¬ (2 : Int) = 1 by decide), if_pos rfl] at hdo; exact hdo
    have hbk : (next T ((who, kn S who + 1 + k), 2, (seenP S.book).getD (a + k) ⟨#[]⟩, 0, [])).book = stB ((who, kn S who + 1 + k), 2, (seenP S.book).getD (a + k) ⟨#[]⟩, 0, []) T.book := by
      show doB T ((who, kn S who + 1 + k), 2, (seenP S.book).getD (a + k) ⟨#[]⟩, 0, []) = _
      unfold doB
      rw [if_neg (show ¬ (2 : Int) = 1 by decide), if_pos rfl, (Bm.strike_book hse).2]; rfl
    rw [hbk]
    have hla : a < (seenP T.book).length := by
      rw [← seenX_len, i2, List.length_append, List.length_take, List.length_drop, seenX_len]; omega
    have hpl : (seenP T.book).getD a ⟨#[]⟩ = (seenP S.book).getD (a + k) ⟨#[]⟩ := by
      rw [seenX_place, i2, seenX_place, List.getD_eq_getElem?_getD, List.getD_eq_getElem?_getD, List.getElem?_map, List.getElem?_map]
      have ht : ((seenX S.book).take a).length = a := by rw [List.length_take, seenX_len]; omega
      rw [List.getElem?_append_right (by omega), ht, Nat.sub_self, List.getElem?_drop, Nat.add_zero]
    rw [st_seen (ok_book hT.book) hla (by exact hpl.symm), i2, take_drop_erase (by rw [seenX_len]; omega)]
theorem del_text {S : Dq} {who : Int} {a n : Nat} (I : Inv S) (w1 : 1 ≤ who) (w8 : who ≤ 8) (h : a + n ≤ (seenP S.book).length) (hr : runE S (delL S who a ((a + n : Nat) : Int)) = 0) :
    Bm.text (runS S (delL S who a ((a + n : Nat) : Int))).book = (Bm.text S.book).take a ++ (Bm.text S.book).drop (a + n) := by
  obtain ⟨_, h2⟩ := del_seen I w1 w8 h hr n (Nat.le_refl _)
  rw [List.take_of_length_le (by rw [delL_len]; exact Nat.le_refl _)] at h2
  rw [seenX_text, h2, List.map_append, List.map_take, List.map_drop]; rfl

/- which ops replace a part: from the last place to the first -/
def rpE (who : Int) (n : Nat) (by_ : ByteArray) : List Nat → Dq → Int
  | [], _ => 0
  | a :: r, C =>
    if delE C who a ((a + n : Nat) : Int) ≠ 0 then delE C who a ((a + n : Nat) : Int)
    else if runE C (delL C who a ((a + n : Nat) : Int)) ≠ 0 then runE C (delL C who a ((a + n : Nat) : Int))
    else if insE (runS C (delL C who a ((a + n : Nat) : Int))) who a by_ ≠ 0 then insE (runS C (delL C who a ((a + n : Nat) : Int))) who a by_
    else if runE (runS C (delL C who a ((a + n : Nat) : Int))) (insL (runS C (delL C who a ((a + n : Nat) : Int))) who a by_) ≠ 0 then runE (runS C (delL C who a ((a + n : Nat) : Int))) (insL (runS C (delL C who a ((a + n : Nat) : Int))) who a by_)
    else rpE who n by_ r (runS (runS C (delL C who a ((a + n : Nat) : Int))) (insL (runS C (delL C who a ((a + n : Nat) : Int))) who a by_))
def rpL (who : Int) (n : Nat) (by_ : ByteArray) : List Nat → Dq → List Ox
  | [], _ => []
  | a :: r, C => delL C who a ((a + n : Nat) : Int) ++ insL (runS C (delL C who a ((a + n : Nat) : Int))) who a by_ ++ rpL who n by_ r (runS (runS C (delL C who a ((a + n : Nat) : Int))) (insL (runS C (delL C who a ((a + n : Nat) : Int))) who a by_))

/- places that fall, each with its room ahead of the one behind it -/
def Desc (n : Nat) : Nat → List Nat → Prop
  | _, [] => True
  | len, a :: r => a + n ≤ len ∧ Desc n a r
def Asc (n len : Nat) : Nat → List Nat → Prop
  | i, [] => i ≤ len
  | i, x :: r => i ≤ x ∧ Asc n len (x + n) r
theorem desc_snoc (n x : Nat) : ∀ (l : List Nat) (len : Nat), Desc n len l → x + n ≤ l.getLastD len → Desc n len (l ++ [x])
  | [], len, _, h => ⟨h, trivial⟩
  | a :: r, len, h, hx => ⟨h.1, desc_snoc n x r a h.2 (by rw [List.getLastD_cons] at hx; exact hx)⟩
theorem asc_desc (n len : Nat) : ∀ (l : List Nat) (i : Nat), Asc n len i l → Desc n len l.reverse ∧ i ≤ l.reverse.getLastD len
  | [], i, h => ⟨trivial, h⟩
  | x :: r, i, h => by
    obtain ⟨i1, i2⟩ := asc_desc n len r (x + n) h.2
    rw [List.reverse_cons]
    refine ⟨desc_snoc n x _ _ i1 i2, ?_⟩
    rw [List.getLastD_concat]; exact h.1
theorem all_asc {t p : List UInt8} (hp : p ≠ []) : ∀ (f i : Nat), i ≤ t.length → Asc p.length t.length i (Fi.allF t p f i)
  | 0, i, h => h
  | f + 1, i, h => by
    have hpos := List.length_pos_iff.2 hp
    rw [Fi.allF]
    split
    · rename_i hl
      split
      · exact ⟨Nat.le_refl _, all_asc hp f (i + p.length) hl⟩
      · have := all_asc (t := t) hp f (i + 1) (by omega)
        revert this
        generalize Fi.allF t p f (i + 1) = l
        intro this
        cases l with
        | nil => exact h
        | cons x r => exact ⟨Nat.le_of_succ_le this.1, this.2⟩
    · exact h
theorem all_desc {t p : List UInt8} (hp : p ≠ []) : Desc p.length t.length (Fi.all t p).reverse := (asc_desc _ _ _ _ (all_asc hp (t.length + 1) 0 (Nat.zero_le _))).1
theorem ins_nil (C : Dq) (who off : Int) : insL C who off ⟨#[]⟩ = [] := rfl
/- what is replaced by nothing is not there any more -/
theorem rp_text {who : Int} {n : Nat} (w1 : 1 ≤ who) (w8 : who ≤ 8) : ∀ (l : List Nat) (C : Dq), Inv C → Desc n (Bm.text C.book).length l → rpE who n ⟨#[]⟩ l C = 0 →
    runE C (rpL who n ⟨#[]⟩ l C) = 0 ∧ (Bm.text (runS C (rpL who n ⟨#[]⟩ l C)).book).length + l.length * n = (Bm.text C.book).length
  | [], C, I, _, _ => ⟨rfl, by simp [rpL, runS]⟩
  | a :: r, C, I, hd, he => by
    unfold rpE at he
    by_cases e1 : delE C who a ((a + n : Nat) : Int) = 0
    · rw [if_neg (by simpa using e1)] at he
      by_cases e2 : runE C (delL C who a ((a + n : Nat) : Int)) = 0
      · rw [if_neg (by simpa using e2)] at he
        by_cases e3 : insE (runS C (delL C who a ((a + n : Nat) : Int))) who a ⟨#[]⟩ = 0
        · rw [if_neg (by simpa using e3), ins_nil, if_neg (by simp [runE])] at he
          have ht := del_text I w1 w8 (by rw [seenP_len]; exact hd.1) e2
          have hI1 := run_inv (delL C who a ((a + n : Nat) : Int)) I
          have hlen : (Bm.text (runS C (delL C who a ((a + n : Nat) : Int))).book).length + n = (Bm.text C.book).length := by
            rw [ht, List.length_append, List.length_take, List.length_drop]; have := hd.1; omega
          have hd2 : Desc n (Bm.text (runS C (delL C who a ((a + n : Nat) : Int))).book).length r := by
            have hbig : a ≤ (Bm.text (runS C (delL C who a ((a + n : Nat) : Int))).book).length := by have := hd.1; omega
            have h2 := hd.2
            revert h2
            cases r with
            | nil => intro _; trivial
            | cons b r2 => intro h2; exact ⟨Nat.le_trans h2.1 hbig, h2.2⟩
          obtain ⟨i1, i2⟩ := rp_text w1 w8 r (runS C (delL C who a ((a + n : Nat) : Int))) hI1 hd2 he
          have hL : rpL who n ⟨#[]⟩ (a :: r) C = delL C who a ((a + n : Nat) : Int) ++ rpL who n ⟨#[]⟩ r (runS C (delL C who a ((a + n : Nat) : Int))) := by
            rw [rpL, ins_nil, List.append_nil]; rfl
          obtain ⟨q1, q2⟩ := run_append (delL C who a ((a + n : Nat) : Int)) (rpL who n ⟨#[]⟩ r (runS C (delL C who a ((a + n : Nat) : Int)))) C
          rw [if_neg (by simpa using e2)] at q1 q2
          rw [hL, q1, q2]
          refine ⟨i1, ?_⟩
          rw [List.length_cons, Nat.add_mul]; omega
        · rw [if_pos e3] at he; exact absurd he e3
      · rw [if_pos e2] at he; exact absurd he e2
    · rw [if_pos e1] at he; exact absurd he e1

end Fj
end Go.Proofs.YtlmdchpbpgcfmaaGreat
