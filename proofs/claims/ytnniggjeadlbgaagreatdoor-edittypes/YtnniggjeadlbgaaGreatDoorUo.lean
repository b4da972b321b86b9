/- The plain mathematics of EditTypes: letter by letter, or at once. No program is named here. -/
import Derived.Test.YtnniggjeadlbgaaGreatDoorUn
namespace Go.Proofs.YtnniggjeadlbgaaGreatDoor
namespace Um
set_option linter.unusedVariables false
open Cm Om Hm
open Op (bytesLess)
open Bm (Leaf none0)

theorem sides_ok {a b : List UInt8} (ha : a = [] ∨ Pm.chk a = 0) (hb : b = [] ∨ Pm.chk b = 0) (h : a = [] ∨ b = [] ∨ bytesLess a b = true) : Pm.sides a b = 0 := by
  unfold Pm.sides
  rcases ha with rfl | ha
  · rcases hb with rfl | hb
    · rfl
    · simp [hb]
  · rcases hb with rfl | hb
    · simp [ha]
    · rcases h with rfl | rfl | h
      · simp [hb]
      · simp [ha]
      · simp [ha, hb, h]
/- there is room, or it is too deep -/
theorem sides_at {S : Dq} (I : Inv S) {off : Nat} (h : off ≤ (seenP S.book).length) : Pm.sides (leftP S.book off).toList (rightP S.book off).toList = 0 := by
  obtain ⟨_, _, c1, c2⟩ := left_small I.book off
  obtain ⟨_, hlf, hr⟩ := Bm.bookE_zero.1 I.book
  by_cases h0 : off = 0
  · have e : leftP S.book off = ⟨#[]⟩ := by unfold leftP; rw [if_pos h0]
    rw [e, emp_list]
    exact sides_ok (Or.inl rfl) c2 (Or.inl rfl)
  · refine sides_ok (Or.inr (c1 h h0)) c2 ?_
    obtain ⟨d1, d2, d3⟩ := cut_off h
    obtain ⟨e1, e2, _⟩ := d3 (by omega)
    by_cases hn : nxt S.book off < S.book.length
    · right; right
      have e : rightP S.book off = (S.book.getD (nxt S.book off) none0).1 := by unfold rightP; rw [if_pos hn]
      rw [e, ← e2]
      exact Bm.rise_lt hr (by omega) hn
    · have e : rightP S.book off = ⟨#[]⟩ := by unfold rightP; rw [if_neg hn]
      right; left
      rw [e, emp_list]
theorem row_8 {a b : ByteArray} {who : Int} (hw : Pm.isWho who = true) (hs : Pm.sides a.toList b.toList = 0) (hb : b.toList = [] ∨ Pm.chk b.toList = 0) : ∀ n, rowE a b who n = 0 ∨ rowE a b who n = 8
  | 0 => Or.inl rfl
  | n + 1 => by
    rcases row_8 hw hs hb n with h | h
    · rw [row_go h]
      refine Pm.betErr_free hw ?_
      cases n with
      | zero => exact hs
      | succ n =>
        have s := nth_chk h (k := n) (by omega)
        exact sides_ok (Or.inr s.chk) hb (by rcases s.down with e | e; exact Or.inr (Or.inl e); exact Or.inr (Or.inr e))
    · right
      rw [row_stop (k := n) (by rw [h]; decide) (n + 1) (by omega)]; exact h
theorem ins_8 {S : Dq} {who off : Int} {t : ByteArray} (I : Inv S) (h1 : 1 ≤ who) (h8 : who ≤ 8) (ht : textE t = 0) (ha : aroundE S.book off = 0) : insE S who off t = 0 ∨ insE S who off t = 8 := by
  have hw : Pm.isWho who = true := by unfold Pm.isWho; simp [h1, h8]
  unfold insE
  rw [hw, if_neg (by simp), if_neg (by simpa using ht), if_neg (by simpa using ha)]
  obtain ⟨a0, a1⟩ := aroundE_zero.1 ha
  obtain ⟨_, _, _, c2⟩ := left_small I.book off.toNat
  exact row_8 hw (sides_at I (by omega)) c2 t.size
/- a doc into which a text's first letters were typed -/
structure Typ (T : Dq) (t : ByteArray) (i : Nat) : Prop where
  inv : Inv T
  text : Bm.text T.book = t.toList.take i
  blen : T.book.length = i
  olen : T.ops.length = i
theorem typ_zero (t : ByteArray) : Typ d0 t 0 := ⟨inv_zero, by simp [d0, Bm.text], rfl, rfl⟩
theorem typ_seen {T : Dq} {t : ByteArray} {i : Nat} (h : Typ T t i) (hi : i ≤ t.size) : (seenP T.book).length = i := by
  rw [seenP_len, h.text, List.length_take, len_eq]; omega
def sub1 (t : ByteArray) (i : Nat) : ByteArray := t.extract i (i + 1)
theorem sub1_list {t : ByteArray} {i : Nat} (hi : i < t.size) : (sub1 t i).toList = [t.toList.getD i 0] := by
  unfold sub1
  have hi2 : i < t.toList.length := by rw [len_eq]; exact hi
  have e : (t.extract i (i + 1)).toList = (t.toList.take (i + 1)).drop i := by
    rw [ByteArray.toList_eq, ByteArray.toList_eq, List.drop_take]
    simp
  rw [e, List.take_add_one, List.getElem?_eq_getElem hi2, List.getD_eq_getElem?_getD, List.getElem?_eq_getElem hi2]
  rw [List.drop_left' (by rw [List.length_take]; omega)]; rfl
theorem sub1_size {t : ByteArray} {i : Nat} (hi : i < t.size) : (sub1 t i).size = 1 := by rw [← len_eq, sub1_list hi]; rfl
theorem sub1_ok {t : ByteArray} (ht : okText t = true) {i : Nat} (hi : i < t.size) : textE (sub1 t i) = 0 := by
  refine textE_zero.2 ⟨by rw [sub1_size hi]; decide, ?_⟩
  unfold okText
  rw [sub1_list hi]
  simp only [List.all_cons, List.all_nil, Bool.and_true]
  exact let_at ht hi
theorem typ_ins {T : Dq} {t : ByteArray} {i : Nat} {who : Int} (h : Typ T t i) (ht : okText t = true) (hi : i < t.size) (h1 : 1 ≤ who) (h8 : who ≤ 8) : insE T who i (sub1 t i) = 0 ∨ insE T who i (sub1 t i) = 8 :=
  ins_8 h.inv h1 h8 (sub1_ok ht hi) (aroundE_zero.2 ⟨by omega, by rw [typ_seen h (by omega)]; omega⟩)
theorem typ_next {T : Dq} {t : ByteArray} {i : Nat} {who : Int} (h : Typ T t i) (hi : i < t.size) (hs : t.size ≤ 60) (h0 : insE T who i (sub1 t i) = 0) : runE T (insL T who i (sub1 t i)) = 0 ∧ Typ (runS T (insL T who i (sub1 t i))) t (i + 1) := by
  have ok := insE_zero.1 h0
  have z1 := sub1_size hi
  have hb := h.blen
  have ho := h.olen
  obtain ⟨r1, r2⟩ := ins_text h.inv ok (by omega) (by omega)
  obtain ⟨q1, q2, _⟩ := ins_run h.inv ok (by omega) (by omega) (sub1 t i).size (Nat.le_refl _)
  have e : (insL T who i (sub1 t i)).take (sub1 t i).size = insL T who i (sub1 t i) := by rw [List.take_of_length_le]; rw [insL_len]; exact Nat.le_refl _
  rw [e] at q2
  obtain ⟨n1, _⟩ := run_new ok.who1 ok.who8 _ h.inv (insL_next T who i (sub1 t i)) r1
  have hi2 : i < t.toList.length := by rw [len_eq]; exact hi
  refine ⟨r1, ⟨run_inv _ h.inv, ?_, ?_, ?_⟩⟩
  · rw [r2, h.text, Int.toNat_natCast, sub1_list hi, List.take_add_one, List.getElem?_eq_getElem hi2, List.getD_eq_getElem?_getD, List.getElem?_eq_getElem hi2]
    rw [List.take_of_length_le (by rw [List.length_take]; omega), List.drop_of_length_le (by rw [List.length_take]; omega)]
    simp
  · rw [q2, List.length_append, List.length_append, List.length_take, List.length_drop, news_len, z1]
    have := (cut_off (off_nat ok)).le
    omega
  · rw [n1, List.length_append, insL_len, z1, ho]
theorem typ_text {T : Dq} {t : ByteArray} (h : Typ T t t.size) : (⟨(Bm.text T.book).toArray⟩ : ByteArray) = t := by
  rw [h.text, List.take_of_length_le (by rw [len_eq]; exact Nat.le_refl _)]; exact mk_toList t
/- at once -/
theorem once_typ {t : ByteArray} {who : Int} (hs : t.size ≤ 60) (h0 : insE d0 who 0 t = 0) : runE d0 (insL d0 who 0 t) = 0 ∧ Typ (runS d0 (insL d0 who 0 t)) t t.size := by
  have ok := insE_zero.1 h0
  obtain ⟨r1, r2⟩ := ins_text inv_zero ok (by show 0 + t.size ≤ 300; omega) (by show 0 + t.size ≤ 400; omega)
  obtain ⟨q1, q2, _⟩ := ins_run inv_zero ok (by show 0 + t.size ≤ 300; omega) (by show 0 + t.size ≤ 400; omega) t.size (Nat.le_refl _)
  have e : (insL d0 who 0 t).take t.size = insL d0 who 0 t := by rw [List.take_of_length_le]; rw [insL_len]; exact Nat.le_refl _
  rw [e] at q2
  obtain ⟨n1, _⟩ := run_new ok.who1 ok.who8 _ inv_zero (insL_next d0 who 0 t) r1
  refine ⟨r1, ⟨run_inv _ inv_zero, ?_, ?_, ?_⟩⟩
  · rw [r2]
    have e9 : t.toList.take t.size = t.toList := List.take_of_length_le (by rw [len_eq]; exact Nat.le_refl _)
    rw [e9]
    simp [d0, Bm.text]
  · rw [q2, List.length_append, List.length_append, List.length_take, List.length_drop, news_len]
    have : d0.book.length = 0 := rfl
    omega
  · rw [n1, List.length_append, insL_len]
    have : d0.ops.length = 0 := rfl
    omega
def dash : ByteArray := ⟨#[45]⟩
theorem dash_ok : textE dash = 0 := by kernel_rfl
theorem dash_run {T : Dq} {t : ByteArray} {who at_ : Int} (h : Typ T t t.size) (hs : t.size ≤ 60) (h0 : insE T who at_ dash = 0) : runE T (insL T who at_ dash) = 0 ∧ Bm.text (runS T (insL T who at_ dash)).book = t.toList.take at_.toNat ++ [45] ++ t.toList.drop at_.toNat := by
  have ok := insE_zero.1 h0
  have hb := h.blen
  have ho := h.olen
  have z : dash.size = 1 := rfl
  obtain ⟨r1, r2⟩ := ins_text h.inv ok (by omega) (by omega)
  refine ⟨r1, ?_⟩
  rw [r2, h.text, List.take_of_length_le (show t.toList.length ≤ t.size by rw [len_eq]; exact Nat.le_refl _), show dash.toList = [45] from toList_mk [45]]

end Um
end Go.Proofs.YtnniggjeadlbgaaGreatDoor
