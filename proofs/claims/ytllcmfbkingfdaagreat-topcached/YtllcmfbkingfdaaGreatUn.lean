/- The plain mathematics of edits, further on: the book behind an insert. No program is named here. -/
import Derived.Test.YtllcmfbkingfdaaGreatUm
namespace Go.Proofs.YtllcmfbkingfdaaGreat
namespace Um
set_option linter.unusedVariables false
open Cm Om Hm
open Op (bytesLess)
open Bm (Leaf none0)

def news (a b : ByteArray) (who : Int) (t : ByteArray) (k : Nat) : List Leaf := (List.range k).map fun j => (nthP a b who (j + 1), ((t.toList.getD j 0).toNat : Int), false)
theorem news_next (a b : ByteArray) (who : Int) (t : ByteArray) (k : Nat) : news a b who t (k + 1) = news a b who t k ++ [(nthP a b who (k + 1), ((t.toList.getD k 0).toNat : Int), false)] := by
  unfold news; rw [List.range_succ, List.map_append]; rfl
theorem news_len (a b : ByteArray) (who : Int) (t : ByteArray) (k : Nat) : (news a b who t k).length = k := by unfold news; simp
theorem news_mem {a b : ByteArray} {who : Int} {t : ByteArray} {k : Nat} {x : Leaf} (h : x ∈ news a b who t k) : ∃ j, j < k ∧ x = (nthP a b who (j + 1), ((t.toList.getD j 0).toNat : Int), false) := by
  unfold news at h
  obtain ⟨j, hj, e⟩ := List.mem_map.1 h
  exact ⟨j, List.mem_range.1 hj, e.symm⟩
theorem let_at {t : ByteArray} (h : okText t = true) {k : Nat} (hk : k < t.size) : Bm.isL ((t.toList.getD k 0).toNat : Int) = true := by
  unfold okText at h
  rw [List.all_eq_true] at h
  have hk2 : k < t.toList.length := by rw [len_eq]; exact hk
  rw [List.getD_eq_getElem?_getD, List.getElem?_eq_getElem hk2]
  exact h _ (List.getElem_mem hk2)
theorem news_seen {a b : ByteArray} {who : Int} {t : ByteArray} (h : okText t = true) : ∀ k, k ≤ t.size → Bm.text (news a b who t k) = t.toList.take k ∧ seenP (news a b who t k) = (List.range k).map (fun j => nthP a b who (j + 1))
  | 0, _ => by simp [news, Bm.text, seenP]
  | k + 1, hk => by
    obtain ⟨i1, i2⟩ := news_seen h (a := a) (b := b) (who := who) k (by omega)
    have hl := let_at h (k := k) (by omega)
    have hk2 : k < t.toList.length := by rw [len_eq]; omega
    have hs : Bm.isS ((nthP a b who (k + 1), ((t.toList.getD k 0).toNat : Int), false) : Leaf) = true := by
      unfold Bm.isS
      have := (Bm.isL_ne hl).1
      simpa using this
    rw [news_next, Bm.text_append, seenP_append, i1, i2, Bm.text_cons, seenP_cons, hs, if_pos rfl, if_pos rfl, List.range_succ, List.map_append]
    refine ⟨?_, rfl⟩
    rw [List.take_add_one, List.getElem?_eq_getElem hk2, List.getD_eq_getElem?_getD, List.getElem?_eq_getElem hk2]
    congr 1
    show [Bm.letter (_, _, _)] = [_]
    congr 1
    unfold Bm.letter
    simp
theorem ahd_parts {A B : List Leaf} {p : List UInt8} (hA : ∀ x ∈ A, bytesLess x.1.toList p = true) (hB : ∀ x ∈ B, bytesLess p x.1.toList = true) : Bm.ahd (A ++ B) p = A.length ∧ Bm.has (A ++ B) p = false := by
  have e : Bm.ahd (A ++ B) p = A.length := by
    unfold Bm.ahd
    rw [List.takeWhile_append_of_pos hA]
    cases B with
    | nil => simp
    | cons y B =>
      have := Bm.less_asymm (hB y (List.mem_cons_self ..))
      rw [List.takeWhile_cons_of_neg (by simp [this])]; simp
  refine ⟨e, ?_⟩
  unfold Bm.has
  rw [e]
  cases B with
  | nil => simp
  | cons y B =>
    have h := hB y (List.mem_cons_self ..)
    have e2 : (A ++ y :: B).getD A.length none0 = y := by rw [List.getD_eq_getElem?_getD, List.getElem?_append_right (Nat.le_refl _)]; simp
    rw [e2]
    cases h3 : (y.1.toList == p) with
    | false => simp
    | true => rw [beq_iff_eq] at h3; rw [h3, Bm.less_irrefl] at h; cases h
theorem write_parts {l A B : List Leaf} (hl : l = A ++ B) (hb : Bm.bookE l = 0) {p : ByteArray} {c : Int} (hc : Pm.chk p.toList = 0) (hi : Bm.isL c = true) (hlen : l.length < 300) (hA : ∀ x ∈ A, bytesLess x.1.toList p.toList = true) (hB : ∀ x ∈ B, bytesLess p.toList x.1.toList = true) : Bm.writeE l p c = 0 ∧ Bm.writeL l p c = A ++ (p, c, false) :: B := by
  obtain ⟨h1, h2⟩ := ahd_parts hA hB
  rw [← hl] at h1 h2
  have h3 : Bm.leafAt l p = (p, 0, false) := by unfold Bm.leafAt; rw [h2]; rfl
  have h4 : Bm.writeE l p c = 0 := Bm.writeE_zero.2 ⟨Bm.withE_zero.2 ⟨hb, hc⟩, Bm.wrE_zero.2 ⟨hi, by unfold Bm.clash; rw [h3]; rfl, Bm.putE_zero.2 (Or.inr hlen)⟩⟩
  refine ⟨h4, ?_⟩
  rw [(Bm.write_book h4).2]
  unfold Bm.putL Bm.wrX
  rw [h1, h2, h3, hl, List.take_left' rfl, if_neg (by simp), List.drop_left' rfl]
theorem nexts_take {u : Int} : ∀ (L : List Ox) (n : Int) (k : Nat), Nexts u n L → Nexts u n (L.take k)
  | [], _, k, _ => by simp [Nexts]
  | o :: L, n, 0, _ => trivial
  | o :: L, n, k + 1, h => ⟨h.1, nexts_take L (n + 1) k h.2⟩
theorem kn_le {S : Dq} (I : Inv S) {u : Int} (h1 : 1 ≤ u) (h8 : u ≤ 8) : 0 ≤ kn S u ∧ kn S u ≤ S.ops.length := by
  have h := I.kno u h1 h8
  have := List.length_filter_le (fun o : Ox => decide (o.1.1 = u)) S.ops
  omega
theorem ap_ok {S : Dq} {o : Ox} (h0 : opE o = 0) (hk : kn S o.1.1 + 1 = o.1.2) (hf : S.ops.length < 400) (hd : doE S o = 0) : apE S o = 0 ∧ apS S o = next S o := by
  have hn : isNew S o = true := isNew_iff.2 ⟨h0, hk, hf, hd⟩
  refine ⟨?_, by unfold apS; rw [hn, if_pos rfl]⟩
  unfold apE
  rw [if_neg (by simpa using h0), if_neg (by omega), if_neg (by omega), if_neg (by omega)]; exact hd
theorem doE_w (T : Dq) (d : Dt) (p : ByteArray) (c : Int) (s : List Dt) : doE T (d, 1, p, c, s) = Bm.writeE T.book p c := by unfold doE; simp
theorem doB_w (T : Dq) (d : Dt) (p : ByteArray) (c : Int) (s : List Dt) : doB T (d, 1, p, c, s) = Bm.writeL T.book p c := by unfold doB; simp
theorem doM_w (T : Dq) (d : Dt) (p : ByteArray) (c : Int) (s : List Dt) : doM T (d, 1, p, c, s) = T.marks := by unfold doM; simp
theorem ins_run {S : Dq} {who off : Int} {t : ByteArray} (I : Inv S) (h : InsOk S who off t) (hl : S.book.length + t.size ≤ 300) (ho : S.ops.length + t.size ≤ 400) : ∀ k, k ≤ t.size →
    runE S ((insL S who off t).take k) = 0 ∧ (runS S ((insL S who off t).take k)).book = S.book.take (nxt S.book off.toNat) ++ news (leftP S.book off.toNat) (rightP S.book off.toNat) who t k ++ S.book.drop (nxt S.book off.toNat) ∧ (runS S ((insL S who off t).take k)).marks = S.marks
  | 0, _ => by simp [runE, runS, news]
  | k + 1, hk => by
    obtain ⟨i1, i2, i3⟩ := ins_run I h hl ho k (by omega)
    have hkl : k < (insL S who off t).length := by rw [insL_len]; omega
    obtain ⟨g1, g2⟩ := run_go (S := S) hkl i1
    obtain ⟨r1, r2⟩ := run_new h.who1 h.who8 _ I (nexts_take _ _ k (insL_next S who off t)) i1
    have hT := run_inv ((insL S who off t).take k) I
    have hlen : ((insL S who off t).take k).length = k := by rw [List.length_take]; omega
    rw [insL_at (by omega)] at g1 g2
    obtain ⟨T, hTe⟩ : ∃ T, T = runS S ((insL S who off t).take k) := ⟨_, rfl⟩
    rw [← hTe] at g1 g2 i2 i3 r1 r2 hT
    have hkn : kn T who = kn S who + k := by rw [r2 who h.who1 h.who8, if_pos rfl, hlen]
    have s := nth_chk h.row (k := k) (by omega)
    have hlet := let_at h.lets (k := k) (by omega)
    obtain ⟨n0, n1⟩ := kn_le I h.who1 h.who8
    obtain ⟨a, ha⟩ : ∃ a, a = leftP S.book off.toNat := ⟨_, rfl⟩
    obtain ⟨b, hbb⟩ : ∃ b, b = rightP S.book off.toNat := ⟨_, rfl⟩
    have hfr := ins_fresh I.book h (k := k) (by omega)
    obtain ⟨_, _, hr⟩ := Bm.bookE_zero.1 I.book
    have hrise := nth_rise h.row (k + 1) (by omega)
    obtain ⟨c1, _, _⟩ := cut_off (off_nat h)
    rw [← ha, ← hbb] at g1 g2 i2 s hfr hrise ⊢
    obtain ⟨p, hp⟩ : ∃ p, p = nthP a b who (k + 1) := ⟨_, rfl⟩
    have hpc : Pm.chk p.toList = 0 := by rw [hp]; exact s.chk
    have hA : ∀ x ∈ S.book.take (nxt S.book off.toNat) ++ news a b who t k, bytesLess x.1.toList p.toList = true := by
      intro x hx
      rcases List.mem_append.1 hx with hx | hx
      · rw [← hfr.1, ← hp] at hx; exact (Bm.take_less hr hx).2
      · obtain ⟨j, hj, rfl⟩ := news_mem hx
        rw [hp]; exact hrise (j + 1) (by omega)
    have hB : ∀ x ∈ S.book.drop (nxt S.book off.toNat), bytesLess p.toList x.1.toList = true := by
      intro x hx
      have e : nxt S.book off.toNat = (if Bm.has S.book p.toList then Bm.ahd S.book p.toList + 1 else Bm.ahd S.book p.toList) := by rw [hp, hfr.2, hfr.1]; rfl
      rw [e] at hx
      exact (Bm.drop_more hr hx).2
    have hTl : T.book.length = S.book.length + k := by
      rw [i2, List.length_append, List.length_append, List.length_take, List.length_drop, news_len]; omega
    obtain ⟨w1, w2⟩ := write_parts i2 hT.book hpc hlet (by omega) hA hB
    have hop : opE (insO a b who (kn S who) t k) = 0 := by
      refine opE_zero.2 ⟨dotE_iff.2 ⟨h.who1, h.who8, ?_, ?_⟩, ⟨by show (1 : Int) ≤ 1; decide, by show (1 : Int) ≤ 4; decide⟩, by rw [hp] at hpc; exact hpc, lawOf_zero.2 ⟨fun _ => ?_, fun e => absurd rfl e, fun _ => rfl, Nat.zero_le _, rfl⟩⟩
      · show 1 ≤ kn S who + 1 + (k : Int); omega
      · show kn S who + 1 + (k : Int) ≤ 9999
        have := I.few
        omega
      · have := Bm.isL_ne hlet; exact ⟨this.2.1, this.2.2⟩
    have hdo : doE T (insO a b who (kn S who) t k) = 0 := by
      unfold insO; rw [doE_w, ← hp]; exact w1
    have hops : T.ops.length < 400 := by rw [r1, List.length_append, hlen]; omega
    obtain ⟨e1, e2⟩ := ap_ok (S := T) hop (by show kn T who + 1 = kn S who + 1 + (k : Int); omega) hops hdo
    rw [e1] at g1
    rw [g2 e1, e2]
    refine ⟨g1, ?_, ?_⟩
    · show doB T (insO a b who (kn S who) t k) = _
      unfold insO
      rw [doB_w, ← hp, w2, news_next, ← hp]
      simp
    · show doM T (insO a b who (kn S who) t k) = _
      unfold insO; rw [doM_w]; exact i3
/- what is seen behind an insert -/
theorem ins_text {S : Dq} {who off : Int} {t : ByteArray} (I : Inv S) (h : InsOk S who off t) (hl : S.book.length + t.size ≤ 300) (ho : S.ops.length + t.size ≤ 400) :
    runE S (insL S who off t) = 0 ∧ Bm.text (runS S (insL S who off t)).book = (Bm.text S.book).take off.toNat ++ t.toList ++ (Bm.text S.book).drop off.toNat := by
  obtain ⟨h1, h2, _⟩ := ins_run I h hl ho t.size (Nat.le_refl _)
  have e : (insL S who off t).take t.size = insL S who off t := by rw [List.take_of_length_le]; rw [insL_len]; exact Nat.le_refl _
  rw [e] at h1 h2
  refine ⟨h1, ?_⟩
  rw [h2, Bm.text_append, Bm.text_append, (news_seen h.lets t.size (Nat.le_refl _)).1]
  obtain ⟨c1, c2, _⟩ := cut_off (off_nat h)
  rw [seenP_len] at c2
  have e2 : Bm.text S.book = Bm.text (S.book.take (nxt S.book off.toNat)) ++ Bm.text (S.book.drop (nxt S.book off.toNat)) := by rw [← Bm.text_append, List.take_append_drop]
  have e3 : t.toList.take t.size = t.toList := by rw [List.take_of_length_le]; rw [len_eq]; exact Nat.le_refl _
  rw [e3]
  conv => rhs; rw [e2]
  rw [List.take_left' c2, List.drop_left' c2]

end Um
end Go.Proofs.YtllcmfbkingfdaaGreat
