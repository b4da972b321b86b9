/- What package cursor answers: Anchor, Resolve, Range. -/
import Derived.Test.YtnniggjeadlbgaaGreatDoorJ2
import Derived.Test.YtnniggjeadlbgaaGreatDoorJ3
namespace Go.Proofs.YtnniggjeadlbgaaGreatDoor
namespace Ca
set_option linter.unusedVariables false
open Go.ChangeShapes Go.WideShapes Go.ChangeAt Go.RowKit Bm Ka Kb La Lb Lc Ld Le Lf Lg
open Lj (BookAt)

def anchE (l : List Leaf) (f : Int) : Int := if bookE l ≠ 0 then bookE l else if f < 0 ∨ ((text l).length : Int) < f then 1 else 0
def anchR (l : List Leaf) (f : Int) : ByteArray := if bookE l = 0 ∧ 0 ≤ f ∧ f < ((text l).length : Int) then (l.getD (nth l 0 f).toNat none0).1 else ⟨#[]⟩
def resE (l : List Leaf) (p : ByteArray) : Int := if p.size = 0 then bookE l else withE l p
def resR (l : List Leaf) (p : ByteArray) : Int := if p.size = 0 then ((textR l).size : Int) else offR l p
def rngE (l : List Leaf) (p q : ByteArray) : Int := if resE l p ≠ 0 then resE l p else if resE l q ≠ 0 then resE l q else if resR l q < resR l p then 3 else 0
def rngR (l : List Leaf) (p q : ByteArray) : ByteArray := if rngE l p q = 0 then (textR l).extract (resR l p).toNat (resR l q).toNat else ⟨#[]⟩

/- plain: where the letter of an offset stands -/
theorem nth_out : ∀ (l : List Leaf) (i : Nat) (f : Int), ((text l).length : Int) ≤ f → nth l i f = -1
  | [], _, _, _ => rfl
  | x :: l, i, f, h => by
    rw [text_cons] at h
    rw [nth]
    cases hx : isS x
    · rw [hx] at h; simp only [Bool.false_eq_true, if_false] at h ⊢; exact nth_out l (i + 1) f h
    · rw [hx] at h; simp only [if_true, List.length_cons] at h ⊢
      rw [if_neg (by omega)]; exact nth_out l (i + 1) (f - 1) (by omega)
theorem split_text : ∀ (l : List Leaf) (r : Nat), r < (text l).length → ∃ A x B, l = A ++ x :: B ∧ isS x = true ∧ (text A).length = r
  | [], r, h => by simp [text] at h
  | y :: l, r, h => by
    rw [text_cons] at h
    cases hy : isS y with
    | true =>
      rw [hy, if_pos rfl] at h
      cases r with
      | zero => exact ⟨[], y, l, rfl, hy, rfl⟩
      | succ r =>
        obtain ⟨A, x, B, rfl, hx, hr⟩ := split_text l r (by simpa using h)
        exact ⟨y :: A, x, B, rfl, hx, by rw [text_cons, hy, if_pos rfl, List.length_cons, hr]⟩
    | false =>
      rw [hy] at h
      obtain ⟨A, x, B, rfl, hx, hr⟩ := split_text l r (by simpa using h)
      exact ⟨y :: A, x, B, rfl, hx, by rw [text_cons, hy]; simpa using hr⟩
structure NthAt (l : List Leaf) (f : Int) (k : Nat) : Prop where
  nth : nth l 0 f = (k : Int)
  lt : k < l.length
  len : ((text (l.take k)).length : Int) = f
  seen : isS (l.getD k none0) = true
theorem nth_in {l : List Leaf} {f : Int} (h0 : 0 ≤ f) (h1 : f < ((text l).length : Int)) : ∃ k, NthAt l f k := by
  obtain ⟨A, x, B, rfl, hx, hr⟩ := split_text l f.toNat (by omega)
  refine ⟨A.length, ?_, by simp, ?_, ?_⟩
  · have := nth_at (B := B) hx A 0
    rw [hr, show ((f.toNat : Nat) : Int) = f by omega] at this
    rw [this]; simp
  · rw [List.take_left' rfl, hr]; omega
  · rw [List.getD_eq_getElem?_getD, List.getElem?_append_right (Nat.le_refl _)]; simpa using hx
theorem atE_in {l : List Leaf} {f : Int} {k : Nat} (h0 : bookE l = 0) (hf : 0 ≤ f) (h : NthAt l f k) : Lf.atE l f = 0 ∧ atR l f = (k : Int) := by
  have e : Lf.atE l f = 0 := by unfold Lf.atE; rw [if_neg (by simpa using h0), if_neg (by omega), if_neg (by rw [h.nth]; omega)]
  exact ⟨e, by unfold atR; rw [if_pos e, h.nth]⟩
theorem atE_out {l : List Leaf} {f : Int} (h0 : bookE l = 0) (h : f < 0 ∨ ((text l).length : Int) ≤ f) : Lf.atE l f = 1 ∧ atR l f = 0 := by
  have e : Lf.atE l f = 1 := by
    unfold Lf.atE; rw [if_neg (by simpa using h0)]
    by_cases hf : f < 0
    · rw [if_pos hf]
    · rw [if_neg hf, if_pos (by rw [nth_out l 0 f (by omega)]; omega)]
  exact ⟨e, by unfold atR; rw [if_neg (by omega)]⟩
theorem textR_zero {l : List Leaf} (h : bookE l = 0) : textR l = ⟨(text l).toArray⟩ := by unfold textR; rw [if_pos h]
theorem textR_size {l : List Leaf} (h : bookE l = 0) : (textR l).size = (text l).length := by rw [textR_zero h]; rfl
theorem text_300 {l : List Leaf} (h : bookE l = 0) : (text l).length ≤ 300 := by
  have := text_len_le l; have := (bookE_zero.1 h).1; omega
theorem size_nil {p : ByteArray} (h : p.size = 0) : p = ⟨#[]⟩ := by
  apply Bm.bytes_inj
  have e : (⟨#[]⟩ : ByteArray).toList = [] := ByteArray.toList_mk []
  have : p.toList.length = 0 := by rw [ByteArray.toList_eq]; simpa using h
  exact (List.eq_nil_of_length_eq_zero this).trans e.symm
theorem ne_nil {p : ByteArray} (h : p.size ≠ 0) : p.toList.isEmpty = false := by
  rw [List.isEmpty_eq_false_iff]
  intro e
  have : p.toList.length = 0 := by rw [e]; rfl
  rw [ByteArray.toList_eq] at this
  exact h (by simpa using this)

set_option maxRecDepth 100000 in
set_option maxHeartbeats 2000000 in
theorem anchor_any (v : Value) (l : List Leaf) (f : Int) (w : World) (h : BookAt w v l) (hs : ∀ x ∈ l, x.1.size ≤ maxLen) :
    Calls Tryz.prog 36 #[v, .int .i64 f] w fun e w' => e = .returned (.tuple #[.string (anchR l f), errV (anchE l f)]) ∧ Below w.heap.size w w' := by
  obtain ⟨q, c, rfl, hl, hn1, hn2, _⟩ := h
  obtain ⟨n, hn⟩ : ∃ n, n = l.length := ⟨_, rfl⟩
  rw [← hn]
  have C := text_any q n c l w hn.symm hl hs (by omega)
  by_cases h0 : bookE l = 0
  · have hsz := textR_size h0
    have h300 := text_300 h0
    obtain ⟨T, hT⟩ : ∃ T, T = textR l := ⟨_, rfl⟩
    rw [h0, errV_zero, ← hT] at C
    rw [← hT] at hsz
    have HC2 : Hid (∀ w2, Below w.heap.size w w2 → Calls Tryz.prog 75 #[.slice q n c, .int .i64 f] w2 fun e w' => e = .returned (.tuple #[.int .i64 (atR l f), errV (Lf.atE l f)]) ∧ Below w2.heap.size w2 w') := fun w2 hb => at_any q n c l f w2 hn.symm (hl.below hb) hs (by omega)
    by_cases he : f = (T.size : Int)
    · have HR : Hid (anchE l f = 0 ∧ anchR l f = ⟨#[]⟩) := ⟨by unfold anchE; rw [if_neg (by simpa using h0), if_neg (by omega)], by unfold anchR; rw [if_neg (by omega)]⟩
      rw [HR.out.1, HR.out.2, errV_zero]
      subst he
      have ht3 : T.size ≤ 300 := by omega
      clear hl hs hn1 hn2 hn h0 hsz h300 hT HC2
      go_enter Tryz.func36, Tryz.ntmps36
      go_wp2_with fail
      refine C.mono ?_
      rintro e w2 ⟨rfl, hb2⟩
      have HB2 : Hid (Below w.heap.size w w2) := hb2
      clear hb2 C
      go_wp2_with fail
      go_ret2
      exact ⟨rfl, HB2.out⟩
    · have heb : (f == (T.size : Int)) = false := by simpa using he
      have ht3 : T.size ≤ 300 := by omega
      by_cases hin : 0 ≤ f ∧ f < ((text l).length : Int)
      · obtain ⟨k, hk⟩ := nth_in hin.1 hin.2
        have HR : Hid (anchE l f = 0 ∧ anchR l f = (l.getD k none0).1) := ⟨by unfold anchE; rw [if_neg (by simpa using h0), if_neg (by omega)], by unfold anchR; rw [if_pos ⟨h0, hin⟩, hk.nth]; rfl⟩
        obtain ⟨a1, a2⟩ := atE_in h0 hin.1 hk
        rw [a1, a2, errV_zero] at HC2
        obtain ⟨b, o, rfl, hc⟩ := hl.some (by rintro rfl; have := hk.lt; simp at this)
        have hci := hc k hk.lt
        rw [HR.out.1, HR.out.2, errV_zero]
        obtain ⟨x, hx⟩ : ∃ x, x = l.getD k none0 := ⟨_, rfl⟩
        rw [← hx] at hci ⊢
        obtain ⟨sx, nx, bx⟩ := x
        have HCI : Hid (At w b o k (sx, nx, bx)) := hci
        have hkz : (k : Int) < n := by have := hk.lt; omega
        clear hl hs hn1 hn h0 hsz h300 hT hc hci hx a1 a2 hk hin he HR
        go_enter Tryz.func36, Tryz.ntmps36
        go_wp2_with fail
        refine C.mono ?_
        rintro e w2 ⟨rfl, hb2⟩
        have HB2 : Hid (Below w.heap.size w w2) := hb2
        have C2 := HC2.out w2 hb2
        clear hb2 C
        go_wp2_with fail
        refine C2.mono ?_
        rintro e w3 ⟨rfl, hb3⟩
        have HB3 : Hid (Below w.heap.size w w3) := bel HB2.out hb3
        obtain ⟨a1, a2, a3⟩ := HCI.out.below HB3.out HCI.out.lt
        simp only at a1 a2 a3
        clear hb3 C2
        go_wp2_with fail
        go_ret2
        exact ⟨rfl, HB3.out⟩
      · have HR : Hid (anchE l f = 1 ∧ anchR l f = ⟨#[]⟩) := ⟨by unfold anchE; rw [if_neg (by simpa using h0), if_pos (by omega)], by unfold anchR; rw [if_neg (by omega)]⟩
        obtain ⟨a1, a2⟩ := atE_out h0 (f := f) (by omega)
        rw [a1, a2, errV_ne (by decide)] at HC2
        rw [HR.out.1, HR.out.2, errV_ne (by decide)]
        clear hl hs hn1 hn2 hn h0 hsz h300 hT a1 a2 hin he HR
        go_enter Tryz.func36, Tryz.ntmps36
        go_wp2_with fail
        refine C.mono ?_
        rintro e w2 ⟨rfl, hb2⟩
        have HB2 : Hid (Below w.heap.size w w2) := hb2
        have C2 := HC2.out w2 hb2
        clear hb2 C
        go_wp2_with fail
        refine C2.mono ?_
        rintro e w3 ⟨rfl, hb3⟩
        have HB3 : Hid (Below w.heap.size w w3) := bel HB2.out hb3
        clear hb3 C2
        go_wp2_with fail
        go_ret2
        exact ⟨rfl, HB3.out⟩
  · have HR : Hid (anchE l f = bookE l ∧ anchR l f = ⟨#[]⟩) := ⟨by unfold anchE; rw [if_pos h0], by unfold anchR; rw [if_neg (fun e => h0 e.1)]⟩
    rw [HR.out.1, HR.out.2]
    rw [errV_ne h0] at C ⊢
    obtain ⟨z, hz⟩ : ∃ z, z = bookE l := ⟨_, rfl⟩
    obtain ⟨T, hT⟩ : ∃ T, T = textR l := ⟨_, rfl⟩
    rw [← hz, ← hT] at C
    rw [← hz]
    clear hl hs hn1 hn2 hn h0 hT hz HR
    go_enter Tryz.func36, Tryz.ntmps36
    go_wp2_with fail
    refine C.mono ?_
    rintro e w2 ⟨rfl, hb2⟩
    have HB2 : Hid (Below w.heap.size w w2) := hb2
    clear hb2 C
    go_wp2_with fail
    go_ret2
    exact ⟨rfl, HB2.out⟩

set_option maxRecDepth 100000 in
set_option maxHeartbeats 2000000 in
theorem resolve_any (v : Value) (l : List Leaf) (p : ByteArray) (w : World) (h : BookAt w v l) (hs : ∀ x ∈ l, x.1.size ≤ maxLen) (hp : p.size ≤ maxLen) :
    Calls Tryz.prog 74 #[v, .string p] w fun e w' => e = .returned (.tuple #[.int .i64 (resR l p), errV (resE l p)]) ∧ Below w.heap.size w w' := by
  obtain ⟨q, c, rfl, hl, hn1, hn2, _⟩ := h
  by_cases hp0 : p.size = 0
  · have C := text_any q _ c l w rfl hl hs (by omega)
    have HR : Hid (resE l p = bookE l ∧ resR l p = ((textR l).size : Int)) := ⟨by unfold resE; rw [if_pos hp0], by unfold resR; rw [if_pos hp0]⟩
    rw [HR.out.1, HR.out.2]
    obtain rfl := size_nil hp0
    obtain ⟨n, hn⟩ : ∃ n, n = l.length := ⟨_, rfl⟩
    obtain ⟨z, hz⟩ : ∃ z, z = errV (bookE l) := ⟨_, rfl⟩
    obtain ⟨T, hT⟩ : ∃ T, T = textR l := ⟨_, rfl⟩
    rw [← hz, ← hT, ← hn] at C
    rw [← hz, ← hT, ← hn]
    clear hl hs hn1 hn2 hn hT hz HR hp0 hp
    go_enter Tryz.func74, Tryz.ntmps74
    go_wp2_with fail
    refine C.mono ?_
    rintro e w2 ⟨rfl, hb2⟩
    have HB2 : Hid (Below w.heap.size w w2) := hb2
    clear hb2 C
    go_wp2_with fail
    go_ret2
    exact ⟨rfl, HB2.out⟩
  · have C := offset_any q _ c l p w rfl hl hs hn1 hn2 hp
    have HR : Hid (resE l p = withE l p ∧ resR l p = offR l p) := ⟨by unfold resE; rw [if_neg hp0], by unfold resR; rw [if_neg hp0]⟩
    rw [HR.out.1, HR.out.2]
    have hpe := ne_nil hp0
    obtain ⟨n, hn⟩ : ∃ n, n = l.length := ⟨_, rfl⟩
    obtain ⟨z, hz⟩ : ∃ z, z = errV (withE l p) := ⟨_, rfl⟩
    obtain ⟨o, ho⟩ : ∃ o, o = offR l p := ⟨_, rfl⟩
    rw [← hz, ← ho, ← hn] at C
    rw [← hz, ← ho, ← hn]
    clear hl hs hn1 hn2 hn ho hz HR hp0 hp
    go_enter Tryz.func74, Tryz.ntmps74
    go_wp2_with fail
    refine C.mono ?_
    rintro e w2 ⟨rfl, hb2⟩
    have HB2 : Hid (Below w.heap.size w w2) := hb2
    clear hb2 C
    go_wp2_with fail
    go_ret2
    exact ⟨rfl, HB2.out⟩

theorem resE_book {l : List Leaf} {p : ByteArray} (h : resE l p = 0) : bookE l = 0 := by
  unfold resE at h
  split at h
  · exact h
  · exact (withE_zero.1 h).1
theorem resR_in {l : List Leaf} {p : ByteArray} (h : resE l p = 0) : 0 ≤ resR l p ∧ resR l p ≤ ((text l).length : Int) := by
  have hb := resE_book h
  unfold resE at h
  unfold resR
  split
  · rw [textR_size hb]; omega
  · rename_i hp
    rw [if_neg hp] at h
    unfold offR
    rw [if_pos h]
    have e : text l = text (l.take (ahd l p.toList)) ++ text (l.drop (ahd l p.toList)) := by rw [← text_append, List.take_append_drop]
    rw [e, List.length_append]; omega

set_option maxRecDepth 100000 in
set_option maxHeartbeats 2000000 in
theorem range_any (v : Value) (l : List Leaf) (p r : ByteArray) (w : World) (h : BookAt w v l) (hs : ∀ x ∈ l, x.1.size ≤ maxLen) (hp : p.size ≤ maxLen) (hr : r.size ≤ maxLen) :
    Calls Tryz.prog 35 #[v, .string p, .string r] w fun e w' => e = .returned (.tuple #[.string (rngR l p r), errV (rngE l p r)]) ∧ Below w.heap.size w w' := by
  have C := resolve_any v l p w h hs hp
  have HC2 : Hid (∀ w2, Below w.heap.size w w2 → Calls Tryz.prog 74 #[v, .string r] w2 fun e w' => e = .returned (.tuple #[.int .i64 (resR l r), errV (resE l r)]) ∧ Below w2.heap.size w2 w') := fun w2 hb => resolve_any v l r w2 (h.below hb) hs hr
  have HC3 : Hid (∀ w2, Below w.heap.size w w2 → Calls Tryz.prog 58 #[v] w2 fun e w' => e = .returned (.tuple #[.string (textR l), errV (bookE l)]) ∧ Below w2.heap.size w2 w') := fun w2 hb => by
    obtain ⟨q, c, rfl, hl, hn1, hn2, _⟩ := h
    exact text_any q _ c l w2 rfl (hl.below hb) hs (by omega)
  obtain ⟨q, n, c, rfl⟩ : ∃ q n c, v = .slice q n c := by obtain ⟨q, c, e, _⟩ := h; exact ⟨_, _, _, e⟩
  by_cases h1 : resE l p = 0
  · obtain ⟨p0, p1⟩ := resR_in h1
    have hbk := resE_book h1
    have hts := textR_size hbk
    have h300 := text_300 hbk
    rw [h1, errV_zero] at C
    by_cases h2 : resE l r = 0
    · obtain ⟨r0, r1⟩ := resR_in h2
      rw [h2, errV_zero] at HC2
      rw [hbk, errV_zero] at HC3
      by_cases h3 : resR l r < resR l p
      · have HR : Hid (rngE l p r = 3 ∧ rngR l p r = ⟨#[]⟩) := by
          have e : rngE l p r = 3 := by unfold rngE; rw [if_neg (by simpa using h1), if_neg (by simpa using h2), if_pos h3]
          exact ⟨e, by unfold rngR; rw [if_neg (by omega)]⟩
        rw [HR.out.1, HR.out.2, errV_ne (by decide)]
        obtain ⟨a, ha⟩ : ∃ a, a = resR l p := ⟨_, rfl⟩
        obtain ⟨b, hb⟩ : ∃ b, b = resR l r := ⟨_, rfl⟩
        rw [← ha] at C h3
        rw [← hb] at HC2 h3
        clear h hs hp hr ha hb p0 p1 r0 r1 h1 h2 hbk hts h300 HR HC3
        go_enter Tryz.func35, Tryz.ntmps35
        go_wp2_with fail
        refine C.mono ?_
        rintro e w2 ⟨rfl, hb2⟩
        have HB2 : Hid (Below w.heap.size w w2) := hb2
        have C2 := HC2.out w2 hb2
        clear hb2 C
        go_wp2_with fail
        refine C2.mono ?_
        rintro e w3 ⟨rfl, hb3⟩
        have HB3 : Hid (Below w.heap.size w w3) := bel HB2.out hb3
        clear hb3 C2
        go_wp2_with fail
        go_ret2
        exact ⟨rfl, HB3.out⟩
      · have HR : Hid (rngE l p r = 0 ∧ rngR l p r = (textR l).extract (resR l p).toNat (resR l r).toNat) := by
          have e : rngE l p r = 0 := by unfold rngE; rw [if_neg (by simpa using h1), if_neg (by simpa using h2), if_neg h3]
          exact ⟨e, by unfold rngR; rw [if_pos e]⟩
        rw [HR.out.1, HR.out.2, errV_zero]
        obtain ⟨a, ha⟩ : ∃ a : Nat, a = (resR l p).toNat := ⟨_, rfl⟩
        obtain ⟨b, hb⟩ : ∃ b : Nat, b = (resR l r).toNat := ⟨_, rfl⟩
        have ha2 : resR l p = (a : Int) := by omega
        have hb2 : resR l r = (b : Int) := by omega
        obtain ⟨T, hT⟩ : ∃ T, T = textR l := ⟨_, rfl⟩
        rw [← hT] at HC3 hts
        rw [← ha, ← hb, ← hT]
        rw [ha2] at C h3
        rw [hb2] at HC2 h3
        have h3a : (a : Int) ≤ (b : Int) := by omega
        have h3b : (b : Int) ≤ (T.size : Int) := by omega
        have h3c : T.size ≤ 300 := by omega
        clear h hs hp hr ha hb p0 p1 r0 r1 h1 h2 hbk hts h300 HR h3 ha2 hb2 hT
        go_enter Tryz.func35, Tryz.ntmps35
        go_wp2_with fail
        refine C.mono ?_
        rintro e w2 ⟨rfl, hb2⟩
        have HB2 : Hid (Below w.heap.size w w2) := hb2
        have C2 := HC2.out w2 hb2
        clear hb2 C
        go_wp2_with fail
        refine C2.mono ?_
        rintro e w3 ⟨rfl, hb3⟩
        have HB3 : Hid (Below w.heap.size w w3) := bel HB2.out hb3
        have C3 := HC3.out w3 HB3.out
        clear hb3 C2
        go_wp2_with fail
        refine C3.mono ?_
        rintro e w4 ⟨rfl, hb4⟩
        have HB4 : Hid (Below w.heap.size w w4) := bel HB3.out hb4
        clear hb4 C3
        go_wp2_with fail
        go_ret2
        exact ⟨rfl, HB4.out⟩
    · have HR : Hid (rngE l p r = resE l r ∧ rngR l p r = ⟨#[]⟩) := by
        have e : rngE l p r = resE l r := by unfold rngE; rw [if_neg (by simpa using h1), if_pos h2]
        exact ⟨e, by unfold rngR; rw [if_neg (by rw [e]; exact h2)]⟩
      rw [HR.out.1, HR.out.2, errV_ne h2]
      rw [errV_ne h2] at HC2
      obtain ⟨z, hz⟩ : ∃ z, z = resE l r := ⟨_, rfl⟩
      obtain ⟨a, ha⟩ : ∃ a, a = resR l p := ⟨_, rfl⟩
      obtain ⟨b, hb⟩ : ∃ b, b = resR l r := ⟨_, rfl⟩
      rw [← ha] at C
      rw [← hb, ← hz] at HC2
      rw [← hz]
      clear h hs hp hr ha hb hz p0 p1 h1 h2 hbk hts h300 HR HC3
      go_enter Tryz.func35, Tryz.ntmps35
      go_wp2_with fail
      refine C.mono ?_
      rintro e w2 ⟨rfl, hb2⟩
      have HB2 : Hid (Below w.heap.size w w2) := hb2
      have C2 := HC2.out w2 hb2
      clear hb2 C
      go_wp2_with fail
      refine C2.mono ?_
      rintro e w3 ⟨rfl, hb3⟩
      have HB3 : Hid (Below w.heap.size w w3) := bel HB2.out hb3
      clear hb3 C2
      go_wp2_with fail
      go_ret2
      exact ⟨rfl, HB3.out⟩
  · have HR : Hid (rngE l p r = resE l p ∧ rngR l p r = ⟨#[]⟩) := by
      have e : rngE l p r = resE l p := by unfold rngE; rw [if_pos h1]
      exact ⟨e, by unfold rngR; rw [if_neg (by rw [e]; exact h1)]⟩
    rw [HR.out.1, HR.out.2, errV_ne h1]
    rw [errV_ne h1] at C
    obtain ⟨z, hz⟩ : ∃ z, z = resE l p := ⟨_, rfl⟩
    obtain ⟨a, ha⟩ : ∃ a, a = resR l p := ⟨_, rfl⟩
    rw [← ha, ← hz] at C
    rw [← hz]
    clear h hs hp hr ha hz h1 HR HC3 HC2
    go_enter Tryz.func35, Tryz.ntmps35
    go_wp2_with fail
    refine C.mono ?_
    rintro e w2 ⟨rfl, hb2⟩
    have HB2 : Hid (Below w.heap.size w w2) := hb2
    clear hb2 C
    go_wp2_with fail
    go_ret2
    exact ⟨rfl, HB2.out⟩

end Ca
end Go.Proofs.YtnniggjeadlbgaaGreatDoor
