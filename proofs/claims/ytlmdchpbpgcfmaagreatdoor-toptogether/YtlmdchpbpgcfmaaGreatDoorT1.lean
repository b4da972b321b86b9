import Derived.Test.YtlmdchpbpgcfmaaGreatDoorJ2
import Derived.Test.YtlmdchpbpgcfmaaGreatDoorJ3
import Derived.Test.YtlmdchpbpgcfmaaGreatDoorU0
import Derived.Test.YtlmdchpbpgcfmaaGreatDoorA0
import Derived.Test.YtlmdchpbpgcfmaaGreatDoorH1
/- What package cursor answers: Anchor, Resolve, Range. -/
namespace Go.Proofs.YtlmdchpbpgcfmaaGreatDoor
namespace Ca
set_option linter.unusedVariables false
open Go.ChangeShapes Go.WideShapes Go.ChangeAt Go.RowKit Bm Ka Kb La Lb Lc Ld Le Lf Lg
open Lj (BookAt)

def anchE (l : List Leaf) (f : Int) : Int := if bookE l ≠ 0 then bookE l else if f < 0 ∨ ((text l).length : Int) < f then 1 else 0
def anchR (l : List Leaf) (f : Int) : ByteArray := if bookE l = 0 ∧ 0 ≤ f ∧ f < ((text l).length : Int) then (l.getD (nth l 0 f).toNat none0).1 else ⟨#[]⟩
def resE (l : List Leaf) (p : ByteArray) : Int := if p.size = 0 then bookE l else withE l p
def resR (l : List Leaf) (p : ByteArray) : Int := if p.size = 0 then ((textR l).size : Int) else offR l p
/- plain: where the letter of an offset stands -/
theorem nth_out : ∀ (l : List Leaf) (i : Nat) (f : Int), ((text l).length : Int) ≤ f → nth l i f = -1
  | [], _, _, _ => rfl
  | x :: l, i, f, h => by
    rw [text_cons] at h
    rw [nth]
    cases hx : isS x
    · rw [hx] at h; simp only [Bool.false_eq_true, if_false] at h ⊢; exact nth_out l (i + 1) f h
    · rw [hx] at h; simp only [if_true, List.length_cons] at h ⊢
      rw [if_neg (by omega)]; exact nth_out l (i + 1) (f - 1) (by omega)
theorem split_text : ∀ (l : List Leaf) (r : Nat), r < (text l).length → ∃ A x B, l = A ++ x :: B ∧ isS x = true ∧ (text A).length = r
  | [], r, h => by simp [text] at h
  | y :: l, r, h => by
    rw [text_cons] at h
    cases hy : isS y with
    | true =>
      rw [hy, if_pos rfl] at h
      cases r with
      | zero => exact ⟨[], y, l, rfl, hy, rfl⟩
      | succ r =>
        obtain ⟨A, x, B, rfl, hx, hr⟩ := split_text l r (by simpa using h)
        exact ⟨y :: A, x, B, rfl, hx, by rw [text_cons, hy, if_pos rfl, List.length_cons, hr]⟩
    | false =>
      rw [hy] at h
      obtain ⟨A, x, B, rfl, hx, hr⟩ := split_text l r (by simpa using h)
      exact ⟨y :: A, x, B, rfl, hx, by rw [text_cons, hy]; simpa using hr⟩
structure NthAt (l : List Leaf) (f : Int) (k : Nat) : Prop where
  nth : nth l 0 f = (k : Int)
  lt : k < l.length
  len : ((text (l.take k)).length : Int) = f
  seen : isS (l.getD k none0) = true
theorem nth_in {l : List Leaf} {f : Int} (h0 : 0 ≤ f) (h1 : f < ((text l).length : Int)) : ∃ k, NthAt l f k := by
  obtain ⟨A, x, B, rfl, hx, hr⟩ := split_text l f.toNat (by omega)
  refine ⟨A.length, ?_, by simp, ?_, ?_⟩
  · have := nth_at (B := B) hx A 0
    rw [hr, show ((f.toNat : Nat) : Int) = f by omega] at this
    rw [this]; simp
  · rw [List.take_left' rfl, hr]; omega
  · rw [List.getD_eq_getElem?_getD, List.getElem?_append_right (Nat.le_refl _)]; simpa using hx
theorem atE_in {l : List Leaf} {f : Int} {k : Nat} (h0 : bookE l = 0) (hf : 0 ≤ f) (h : NthAt l f k) : Lf.atE l f = 0 ∧ atR l f = (k : Int) := by
  have e : Lf.atE l f = 0 := by unfold Lf.atE; rw [if_neg (by simpa using h0), if_neg (by omega), if_neg (by rw [h.nth]; omega)]
  exact ⟨e, by unfold atR; rw [if_pos e, h.nth]⟩
theorem atE_out {l : List Leaf} {f : Int} (h0 : bookE l = 0) (h : f < 0 ∨ ((text l).length : Int) ≤ f) : Lf.atE l f = 1 ∧ atR l f = 0 := by
  have e : Lf.atE l f = 1 := by
    unfold Lf.atE; rw [if_neg (by simpa using h0)]
    by_cases hf : f < 0
    · rw [if_pos hf]
    · rw [if_neg hf, if_pos (by rw [nth_out l 0 f (by omega)]; omega)]
  exact ⟨e, by unfold atR; rw [if_neg (by omega)]⟩
theorem textR_zero {l : List Leaf} (h : bookE l = 0) : textR l = ⟨(text l).toArray⟩ := by unfold textR; rw [if_pos h]
theorem textR_size {l : List Leaf} (h : bookE l = 0) : (textR l).size = (text l).length := by rw [textR_zero h]; rfl
theorem text_300 {l : List Leaf} (h : bookE l = 0) : (text l).length ≤ 300 := by
  have := text_len_le l; have := (bookE_zero.1 h).1; omega
theorem size_nil {p : ByteArray} (h : p.size = 0) : p = ⟨#[]⟩ := by
  apply Bm.bytes_inj
  have e : (⟨#[]⟩ : ByteArray).toList = [] := ByteArray.toList_mk []
  have : p.toList.length = 0 := by rw [ByteArray.toList_eq]; simpa using h
  exact (List.eq_nil_of_length_eq_zero this).trans e.symm
theorem ne_nil {p : ByteArray} (h : p.size ≠ 0) : p.toList.isEmpty = false := by
  rw [List.isEmpty_eq_false_iff]
  intro e
  have : p.toList.length = 0 := by rw [e]; rfl
  rw [ByteArray.toList_eq] at this
  exact h (by simpa using this)

set_option maxRecDepth 100000 in
set_option maxHeartbeats 2000000 in
theorem anchor_any (v : Value) (l : List Leaf) (f : Int) (w : World) (h : BookAt w v l) (hs : ∀ x ∈ l, x.1.size ≤ maxLen) :
    Calls Tryz.prog 15 #[v, .int .i64 f] w fun e w' => e = .returned (.tuple #[.string (anchR l f), errV (anchE l f)]) ∧ Below w.heap.size w w' := by
  obtain ⟨q, c, rfl, hl, hn1, hn2, _⟩ := h
  obtain ⟨n, hn⟩ : ∃ n, n = l.length := ⟨_, rfl⟩
  rw [← hn]
  have C := text_any q n c l w hn.symm hl hs (by omega)
  by_cases h0 : bookE l = 0
  · have hsz := textR_size h0
    have h300 := text_300 h0
    obtain ⟨T, hT⟩ : ∃ T, T = textR l := ⟨_, rfl⟩
    rw [h0, errV_zero, ← hT] at C
    rw [← hT] at hsz
    have HC2 : Hid (∀ w2, Below w.heap.size w w2 → Calls Tryz.prog 49 #[.slice q n c, .int .i64 f] w2 fun e w' => e = .returned (.tuple #[.int .i64 (atR l f), errV (Lf.atE l f)]) ∧ Below w2.heap.size w2 w') := fun w2 hb => at_any q n c l f w2 hn.symm (hl.below hb) hs (by omega)
    by_cases he : f = (T.size : Int)
    · have HR : Hid (anchE l f = 0 ∧ anchR l f = ⟨#[]⟩) := ⟨by unfold anchE; rw [if_neg (by simpa using h0), if_neg (by omega)], by unfold anchR; rw [if_neg (by omega)]⟩
      rw [HR.out.1, HR.out.2, errV_zero]
      subst he
      have ht3 : T.size ≤ 300 := by omega
      clear hl hs hn1 hn2 hn h0 hsz h300 hT HC2
      go_enter Tryz.func15, Tryz.ntmps15
      go_wp2_with fail
      refine C.mono ?_
      rintro e w2 ⟨rfl, hb2⟩
      have HB2 : Hid (Below w.heap.size w w2) := hb2
      clear hb2 C
      go_wp2_with fail
      go_ret2
      exact ⟨rfl, HB2.out⟩
    · have heb : (f == (T.size : Int)) = false := by simpa using he
      have ht3 : T.size ≤ 300 := by omega
      by_cases hin : 0 ≤ f ∧ f < ((text l).length : Int)
      · obtain ⟨k, hk⟩ := nth_in hin.1 hin.2
        have HR : Hid (anchE l f = 0 ∧ anchR l f = (l.getD k none0).1) := ⟨by unfold anchE; rw [if_neg (by simpa using h0), if_neg (by omega)], by unfold anchR; rw [if_pos ⟨h0, hin⟩, hk.nth]; rfl⟩
        obtain ⟨a1, a2⟩ := atE_in h0 hin.1 hk
        rw [a1, a2, errV_zero] at HC2
        obtain ⟨b, o, rfl, hc⟩ := hl.some (by rintro rfl; have := hk.lt; simp at this)
        have hci := hc k hk.lt
        rw [HR.out.1, HR.out.2, errV_zero]
        obtain ⟨x, hx⟩ : ∃ x, x = l.getD k none0 := ⟨_, rfl⟩
        rw [← hx] at hci ⊢
        obtain ⟨sx, nx, bx⟩ := x
        have HCI : Hid (At w b o k (sx, nx, bx)) := hci
        have hkz : (k : Int) < n := by have := hk.lt; omega
        clear hl hs hn1 hn h0 hsz h300 hT hc hci hx a1 a2 hk hin he HR
        go_enter Tryz.func15, Tryz.ntmps15
        go_wp2_with fail
        refine C.mono ?_
        rintro e w2 ⟨rfl, hb2⟩
        have HB2 : Hid (Below w.heap.size w w2) := hb2
        have C2 := HC2.out w2 hb2
        clear hb2 C
        go_wp2_with fail
        refine C2.mono ?_
        rintro e w3 ⟨rfl, hb3⟩
        have HB3 : Hid (Below w.heap.size w w3) := bel HB2.out hb3
        obtain ⟨a1, a2, a3⟩ := HCI.out.below HB3.out HCI.out.lt
        simp only at a1 a2 a3
        clear hb3 C2
        go_wp2_with fail
        go_ret2
        exact ⟨rfl, HB3.out⟩
      · have HR : Hid (anchE l f = 1 ∧ anchR l f = ⟨#[]⟩) := ⟨by unfold anchE; rw [if_neg (by simpa using h0), if_pos (by omega)], by unfold anchR; rw [if_neg (by omega)]⟩
        obtain ⟨a1, a2⟩ := atE_out h0 (f := f) (by omega)
        rw [a1, a2, errV_ne (by decide)] at HC2
        rw [HR.out.1, HR.out.2, errV_ne (by decide)]
        clear hl hs hn1 hn2 hn h0 hsz h300 hT a1 a2 hin he HR
        go_enter Tryz.func15, Tryz.ntmps15
        go_wp2_with fail
        refine C.mono ?_
        rintro e w2 ⟨rfl, hb2⟩
        have HB2 : Hid (Below w.heap.size w w2) := hb2
        have C2 := HC2.out w2 hb2
        clear hb2 C
        go_wp2_with fail
        refine C2.mono ?_
        rintro e w3 ⟨rfl, hb3⟩
        have HB3 : Hid (Below w.heap.size w w3) := bel HB2.out hb3
        clear hb3 C2
        go_wp2_with fail
        go_ret2
        exact ⟨rfl, HB3.out⟩
  · have HR : Hid (anchE l f = bookE l ∧ anchR l f = ⟨#[]⟩) := ⟨by unfold anchE; rw [if_pos h0], by unfold anchR; rw [if_neg (fun e => h0 e.1)]⟩
    rw [HR.out.1, HR.out.2]
    rw [errV_ne h0] at C ⊢
    obtain ⟨z, hz⟩ : ∃ z, z = bookE l := ⟨_, rfl⟩
    obtain ⟨T, hT⟩ : ∃ T, T = textR l := ⟨_, rfl⟩
    rw [← hz, ← hT] at C
    rw [← hz]
    clear hl hs hn1 hn2 hn h0 hT hz HR
    go_enter Tryz.func15, Tryz.ntmps15
    go_wp2_with fail
    refine C.mono ?_
    rintro e w2 ⟨rfl, hb2⟩
    have HB2 : Hid (Below w.heap.size w w2) := hb2
    clear hb2 C
    go_wp2_with fail
    go_ret2
    exact ⟨rfl, HB2.out⟩

set_option maxRecDepth 100000 in
set_option maxHeartbeats 2000000 in
theorem resolve_any (v : Value) (l : List Leaf) (p : ByteArray) (w : World) (h : BookAt w v l) (hs : ∀ x ∈ l, x.1.size ≤ maxLen) (hp : p.size ≤ maxLen) :
    Calls Tryz.prog 18 #[v, .string p] w fun e w' => e = .returned (.tuple #[.int .i64 (resR l p), errV (resE l p)]) ∧ Below w.heap.size w w' := by
  obtain ⟨q, c, rfl, hl, hn1, hn2, _⟩ := h
  by_cases hp0 : p.size = 0
  · have C := text_any q _ c l w rfl hl hs (by omega)
    have HR : Hid (resE l p = bookE l ∧ resR l p = ((textR l).size : Int)) := ⟨by unfold resE; rw [if_pos hp0], by unfold resR; rw [if_pos hp0]⟩
    rw [HR.out.1, HR.out.2]
    obtain rfl := size_nil hp0
    obtain ⟨n, hn⟩ : ∃ n, n = l.length := ⟨_, rfl⟩
    obtain ⟨z, hz⟩ : ∃ z, z = errV (bookE l) := ⟨_, rfl⟩
    obtain ⟨T, hT⟩ : ∃ T, T = textR l := ⟨_, rfl⟩
    rw [← hz, ← hT, ← hn] at C
    rw [← hz, ← hT, ← hn]
    clear hl hs hn1 hn2 hn hT hz HR hp0 hp
    go_enter Tryz.func18, Tryz.ntmps18
    go_wp2_with fail
    refine C.mono ?_
    rintro e w2 ⟨rfl, hb2⟩
    have HB2 : Hid (Below w.heap.size w w2) := hb2
    clear hb2 C
    go_wp2_with fail
    go_ret2
    exact ⟨rfl, HB2.out⟩
  · have C := offset_any q _ c l p w rfl hl hs hn1 hn2 hp
    have HR : Hid (resE l p = withE l p ∧ resR l p = offR l p) := ⟨by unfold resE; rw [if_neg hp0], by unfold resR; rw [if_neg hp0]⟩
    rw [HR.out.1, HR.out.2]
    have hpe := ne_nil hp0
    obtain ⟨n, hn⟩ : ∃ n, n = l.length := ⟨_, rfl⟩
    obtain ⟨z, hz⟩ : ∃ z, z = errV (withE l p) := ⟨_, rfl⟩
    obtain ⟨o, ho⟩ : ∃ o, o = offR l p := ⟨_, rfl⟩
    rw [← hz, ← ho, ← hn] at C
    rw [← hz, ← ho, ← hn]
    clear hl hs hn1 hn2 hn ho hz HR hp0 hp
    go_enter Tryz.func18, Tryz.ntmps18
    go_wp2_with fail
    refine C.mono ?_
    rintro e w2 ⟨rfl, hb2⟩
    have HB2 : Hid (Below w.heap.size w w2) := hb2
    clear hb2 C
    go_wp2_with fail
    go_ret2
    exact ⟨rfl, HB2.out⟩

end Ca
end Go.Proofs.YtlmdchpbpgcfmaaGreatDoor
/- The plain mathematics of cursors: by which place one is held, where it is, and what an insert does to it. -/
namespace Go.Proofs.YtlmdchpbpgcfmaaGreatDoor
namespace Cb
set_option linter.unusedVariables false
open Bm Ca Hm Om Um
open Lf (textR offR)

theorem ahd_split {A B : List Leaf} {x : Leaf} (hr : Rise (A ++ x :: B)) : ahd (A ++ x :: B) x.1.toList = A.length := by
  obtain ⟨_, _, h3⟩ := List.pairwise_append.1 hr
  unfold ahd
  rw [List.takeWhile_append_of_pos (fun a ha => h3 a ha x (List.mem_cons_self ..)), List.takeWhile_cons_of_neg (by simp [less_irrefl])]
  simp
theorem off_split {A B : List Leaf} {x : Leaf} (h : bookE (A ++ x :: B) = 0) : x.1.size ≠ 0 ∧ x.1.size ≤ 12 ∧ withE (A ++ x :: B) x.1 = 0 ∧ offR (A ++ x :: B) x.1 = ((text A).length : Int) := by
  obtain ⟨_, h2, h3⟩ := bookE_zero.1 h
  have hc := (leafE_zero.1 (h2 x (by simp))).1
  have hl := chk_pos hc
  rw [ByteArray.toList_eq] at hl
  have e : withE (A ++ x :: B) x.1 = 0 := withE_zero.2 ⟨h, hc⟩
  refine ⟨fun e => ?_, by simpa using hl.2, e, ?_⟩
  · have := hl.1; simp at this; omega
  · unfold offR; rw [if_pos e, ahd_split h3, List.take_left' rfl]

/- a cursor that is at an offset -/
def Held (l : List Leaf) (f : Int) (p : ByteArray) : Prop := (p.size = 0 ∧ f = ((text l).length : Int)) ∨ ∃ A x B, l = A ++ x :: B ∧ isS x = true ∧ ((text A).length : Int) = f ∧ p = x.1
theorem anch_held {l : List Leaf} {f : Int} (h0 : bookE l = 0) (h : anchE l f = 0) : Held l f (anchR l f) := by
  unfold anchE at h
  rw [if_neg (by simpa using h0)] at h
  by_cases h1 : f < 0 ∨ ((text l).length : Int) < f
  · rw [if_pos h1] at h; omega
  · by_cases h2 : f < ((text l).length : Int)
    · obtain ⟨A, x, B, rfl, hx, hr⟩ := split_text l f.toNat (by omega)
      refine Or.inr ⟨A, x, B, rfl, hx, by omega, ?_⟩
      have := nth_at (B := B) hx A 0
      rw [hr, show ((f.toNat : Nat) : Int) = f by omega] at this
      unfold anchR
      rw [if_pos ⟨h0, by omega, h2⟩, this, List.getD_eq_getElem?_getD, List.getElem?_append_right (by simp)]
      simp
    · refine Or.inl ⟨?_, by omega⟩
      unfold anchR
      rw [if_neg (by omega)]; rfl
/- a doc of few ops is short -/
/- from one cursor to another one -/
end Cb
end Go.Proofs.YtlmdchpbpgcfmaaGreatDoor
/- TopTogether's mathematics: a cursor is held by a place; the letter there stays; what all have. No program is named here. -/
namespace Go.Proofs.YtlmdchpbpgcfmaaGreatDoor
namespace Hh
set_option linter.unusedVariables false
open Cm Om Hm Aa Hc Ca Cb
open Lf (textR offR)

/- one letter of a text -/
theorem one_letter {A B : List Bm.Leaf} {x : Bm.Leaf} (h : Bm.bookE (A ++ x :: B) = 0) (hx : Bm.isS x = true) : (Bm.text A).length + 1 ≤ (textR (A ++ x :: B)).size ∧ (textR (A ++ x :: B)).extract (Bm.text A).length ((Bm.text A).length + 1) = ⟨#[Bm.letter x]⟩ := by
  rw [textR_zero h, Bm.text_append, Bm.text_cons, if_pos hx]
  constructor
  · show _ ≤ (Bm.text A ++ Bm.letter x :: Bm.text B).length
    rw [List.length_append, List.length_cons]; omega
  · apply ByteArray.ext
    rw [ByteArray.data_extract]
    apply Array.ext'
    rw [Array.toList_extract, List.extract_eq_take_drop]
    show ((Bm.text A ++ Bm.letter x :: Bm.text B).drop (Bm.text A).length).take ((Bm.text A).length + 1 - (Bm.text A).length) = [Bm.letter x]
    rw [List.drop_left' rfl, show (Bm.text A).length + 1 - (Bm.text A).length = 1 by omega]; rfl
/- what is held: a place that has a letter, and that letter -/
def Hold (S : Dq) (p c : ByteArray) : Prop := p.size = 0 ∨ ((Bm.leafAt S.book p).2.1 ≠ 0 ∧ c = ⟨#[Bm.letter (Bm.leafAt S.book p)]⟩)
theorem seen_ne {x : Bm.Leaf} (h : Bm.isS x = true) : x.2.1 ≠ 0 := by
  unfold Bm.isS at h
  simp at h
  exact h.1
theorem hold_new {S : Dq} (I : Inv S) {f : Int} (h : (anchR S.book f).size ≠ 0) : anchE S.book f = 0 ∧ 0 ≤ f ∧ f.toNat + 1 ≤ (textR S.book).size ∧ (anchR S.book f).size ≤ 12 ∧ Hold S (anchR S.book f) ((textR S.book).extract f.toNat (f.toNat + 1)) := by
  by_cases hc : Bm.bookE S.book = 0 ∧ 0 ≤ f ∧ f < ((Bm.text S.book).length : Int)
  · have ha : anchE S.book f = 0 := by unfold anchE; rw [if_neg (by simpa using hc.1), if_neg (by omega)]
    rcases anch_held hc.1 ha with ⟨h1, _⟩ | ⟨A, x, B, e, hx, hf, hp⟩
    · exact absurd h1 h
    · have hb := hc.1
      rw [e] at hb
      have ho := one_letter hb hx
      have hs := off_split hb
      have hm : Bm.leafAt S.book x.1 = x := Bm.leafAt_mem (Bm.bookE_zero.1 hc.1).2.2 (by rw [e]; simp)
      rw [hp]
      rw [show f.toNat = (Bm.text A).length by omega]
      refine ⟨ha, hc.2.1, by rw [e]; exact ho.1, hs.2.1, Or.inr ⟨by rw [hm]; exact seen_ne hx, ?_⟩⟩
      rw [hm, e]; exact ho.2
  · exfalso
    apply h
    unfold anchR
    rw [if_neg hc]; rfl
theorem hold_up {S T : Dq} (I : Inv S) (J : Inv T) (hs : ∀ o ∈ S.ops, o ∈ T.ops) {p c : ByteArray} (h : Hold S p c) : Hold T p c := by
  rcases h with h | ⟨h1, h2⟩
  · exact Or.inl h
  · have e := letter_up I J hs h1
    refine Or.inr ⟨by rw [e]; exact h1, ?_⟩
    rw [h2]
    unfold Bm.letter
    rw [e]
theorem hold_end {T : Dq} (J : Inv T) {p c : ByteArray} (h : Hold T p c) (hp : p.size ≠ 0) : p.size ≤ 12 ∧ resE T.book p = 0 ∧ Bm.has T.book p.toList = true ∧ Bm.ahd T.book p.toList < T.book.length ∧ T.book.getD (Bm.ahd T.book p.toList) Bm.none0 = Bm.leafAt T.book p ∧ 0 ≤ resR T.book p ∧
    (Bm.isS (Bm.leafAt T.book p) = true → (resR T.book p).toNat + 1 ≤ (textR T.book).size ∧ (textR T.book).extract (resR T.book p).toNat ((resR T.book p).toNat + 1) = c) := by
  rcases h with h | ⟨h1, h2⟩
  · exact absurd h hp
  · have hb := J.book
    have hr := (Bm.bookE_zero.1 hb).2.2
    have hh : Bm.has T.book p.toList = true := by
      cases e : Bm.has T.book p.toList
      · exfalso; apply h1; unfold Bm.leafAt; rw [e]; rfl
      · rfl
    obtain ⟨hm, hk⟩ := Bm.leafAt_has hr hh
    have hg : T.book.getD (Bm.ahd T.book p.toList) Bm.none0 = Bm.leafAt T.book p := by unfold Bm.leafAt; rw [if_pos hh]
    have hl : Bm.ahd T.book p.toList < T.book.length := by
      have h3 := hh
      unfold Bm.has at h3
      simp at h3
      exact h3.1
    generalize Bm.leafAt T.book p = x at h1 h2 hm hk hg
    obtain ⟨A, B, e⟩ := List.append_of_mem hm
    have hb2 := hb
    rw [e] at hb2
    have hs := off_split hb2
    rw [← e, hk] at hs
    have hre : resR T.book p = ((Bm.text A).length : Int) := by unfold resR; rw [if_neg hp, hs.2.2.2]
    refine ⟨hs.2.1, by unfold resE; rw [if_neg hp]; exact hs.2.2.1, hh, hl, hg, by omega, fun hx => ?_⟩
    have ho := one_letter hb2 hx
    rw [← e] at ho
    rw [hre, h2]
    exact ho
/- nothing that was done is undone -/
def Up (N M : Nt) : Prop := ∀ j o, o ∈ (dq N j).ops → o ∈ (dq M j).ops
theorem Up.refl (N : Nt) : Up N N := fun _ _ h => h
theorem Up.ev {N M : Nt} (h : Up N M) (g : Gl M) (e : Ev) : Up N (evS M e) := fun j o ho => ev_up g e j o (h j o ho)

end Hh
end Go.Proofs.YtlmdchpbpgcfmaaGreatDoor
