/- What book.Text, book.Offset and book.At answer. -/
import Derived.Test.YtaefoieoachdfaaLe
namespace Go.Proofs.Ytaefoieoachdfaa
namespace Lf
set_option linter.unusedVariables false
open Go.ChangeShapes Go.WideShapes Go.ChangeAt Go.RowKit Bm Ka Kb La Lb Lc Ld Le

def textR (l : List Leaf) : ByteArray := if bookE l = 0 then ⟨(text l).toArray⟩ else ⟨#[]⟩
def offR (l : List Leaf) (p : ByteArray) : Int := if withE l p = 0 then ((text (l.take (ahd l p.toList))).length : Int) else 0
def atE (l : List Leaf) (f : Int) : Int := if bookE l ≠ 0 then bookE l else if f < 0 then 1 else if nth l 0 f < 0 then 1 else 0
def atR (l : List Leaf) (f : Int) : Int := if atE l f = 0 then nth l 0 f else 0

theorem book_ok {l : List Leaf} (h : bookE l = 0) : l.length ≤ 300 ∧ Rise l ∧ ∀ x ∈ l, x.2.1 = 0 ∨ isL x.2.1 = true := by
  obtain ⟨h1, h2, h3⟩ := bookE_zero.1 h
  exact ⟨h1, h3, fun x hx => (leafE_zero.1 (h2 x hx)).2.1⟩
theorem LeafsIn.take {w : World} {p : Option Addr} {l : List Leaf} (h : LeafsIn w p l) (i : Nat) : LeafsIn w p (l.take i) := by
  rcases h with rfl | ⟨b, o, hp, hc⟩
  · exact Or.inl (by simp)
  · refine Or.inr ⟨b, o, hp, fun j hj => ?_⟩
    rw [List.length_take] at hj
    have : (l.take i).getD j none0 = l.getD j none0 := by
      rw [List.getD_eq_getElem?_getD, List.getD_eq_getElem?_getD, List.getElem?_take_of_lt (by omega)]
    rw [this]; exact hc j (by omega)

theorem text_any (q : Option Addr) (n c : Nat) (l : List Leaf) (w : World) (hl : l.length = n) (h : LeafsIn w q l) (hs : ∀ x ∈ l, x.1.size ≤ maxLen) (hn : n ≤ maxLen) :
    Calls Try.prog 9 #[.slice q n c] w fun e w' => e = .returned (.tuple #[.string (textR l), errV (bookE l)]) ∧ Below w.heap.size w w' := by
  have C := check_book q n c l w hl h hs hn
  by_cases h0 : bookE l = 0
  · have hk := book_ok h0
    have HC2 : Hid (∀ w2, Below w.heap.size w w2 → Calls Try.prog 27 #[.slice q n c] w2 fun e w' => e = .returned (.string ⟨(text l).toArray⟩) ∧ Below w2.heap.size w2 w') := fun w2 hb => letters_any q n c l w2 hl (h.below hb) hk.2.2 (by omega)
    have HT : Hid (textR l = ⟨(text l).toArray⟩) := by unfold Hid textR; rw [if_pos h0]
    have HE : Hid (errV (bookE l) = .nilIface) := by unfold Hid; rw [h0]; rfl
    rw [HE.out] at C
    rw [HE.out, HT.out]
    clear hl h hs hn hk h0 HT HE
    go_enter Try.func9, Try.ntmps9
    go_wp2_with fail
    refine C.mono ?_
    rintro e w2 ⟨rfl, hb2⟩
    have HB2 : Hid (Below w.heap.size w w2) := hb2
    have C2 := HC2.out w2 hb2
    clear hb2 C
    go_wp2_with fail
    refine C2.mono ?_
    rintro e w3 ⟨rfl, hb3⟩
    have HB3 : Hid (Below w.heap.size w w3) := bel HB2.out hb3
    clear hb3 C2
    go_wp2_with fail
    go_ret2
    exact ⟨rfl, HB3.out⟩
  · obtain ⟨k, hk⟩ : ∃ k, k = bookE l := ⟨_, rfl⟩
    have HT : Hid (textR l = ⟨#[]⟩) := by unfold Hid textR; rw [if_neg h0]
    have HE : Hid (errV (bookE l) = .iface 59 (.int .i64 k)) := by unfold Hid; rw [errV_ne h0, hk]
    rw [HE.out] at C
    rw [HE.out, HT.out]
    clear hl h hs hn h0 hk HT HE
    go_enter Try.func9, Try.ntmps9
    go_wp2_with fail
    refine C.mono ?_
    rintro e w2 ⟨rfl, hb2⟩
    have HB2 : Hid (Below w.heap.size w w2) := hb2
    clear hb2 C
    go_wp2_with fail
    go_ret2
    exact ⟨rfl, HB2.out⟩

theorem offset_any (q : Option Addr) (n c : Nat) (l : List Leaf) (p : ByteArray) (w : World) (hl : l.length = n) (h : LeafsIn w q l) (hs : ∀ x ∈ l, x.1.size ≤ maxLen) (hn : n ≤ c) (hc : c ≤ maxLen) (hp : p.size ≤ maxLen) :
    Calls Try.prog 10 #[.slice q n c, .string p] w fun e w' => e = .returned (.tuple #[.int .i64 (offR l p), errV (withE l p)]) ∧ Below w.heap.size w w' := by
  have C := checkWith_any q n c l p w hl h hs (Nat.le_trans hn hc) hp
  unfold maxLen at hc
  by_cases h0 : withE l p = 0
  · have hk := book_ok (withE_zero.1 h0).1
    have hle := ahead_le (p := p.toList) hk.2.1
    rw [hl] at hle
    have HC2 : Hid (∀ w2, Below w.heap.size w w2 → Calls Try.prog 8 #[.slice q n c, .string p] w2 fun e w' => e = .returned (.tuple #[.int .i64 (ahd l p.toList), .bool (has l p.toList)]) ∧ Below w2.heap.size w2 w') := fun w2 hb => find_any q n c l p w2 hl (h.below hb) hk.2.1 (by omega)
    have HC3 : Hid (∀ w2, Below w.heap.size w w2 → Calls Try.prog 27 #[.slice q (ahd l p.toList) c] w2 fun e w' => e = .returned (.string ⟨(text (l.take (ahd l p.toList))).toArray⟩) ∧ Below w2.heap.size w2 w') := fun w2 hb => letters_any q _ c _ w2 (by rw [List.length_take]; omega) (LeafsIn.take (h.below hb) _) (fun x hx => hk.2.2 x (List.mem_of_mem_take hx)) (by omega)
    have hT : offR l p = ((text (l.take (ahd l p.toList))).length : Int) := by unfold offR; rw [if_pos h0]
    have hTl : (text (l.take (ahd l p.toList))).length ≤ 300 := by
      have := text_len_le (l.take (ahd l p.toList)); rw [List.length_take] at this; omega
    have HE : Hid (errV (withE l p) = .nilIface) := by unfold Hid; rw [h0]; rfl
    have hn300 : n ≤ 300 := by rw [← hl]; exact hk.1
    rw [HE.out] at C
    obtain ⟨T, hTT⟩ : ∃ T : ByteArray, T = ⟨(text (l.take (ahd l p.toList))).toArray⟩ := ⟨_, rfl⟩
    have hTs : T.size = (text (l.take (ahd l p.toList))).length := by rw [hTT]; rfl
    have HR : Hid (offR l p = (T.size : Int)) := by unfold Hid; rw [hT, hTs]
    rw [← hTT] at HC3
    rw [← hTs] at hTl
    rw [HE.out, HR.out]
    obtain ⟨i, hi⟩ : ∃ i, i = ahd l p.toList := ⟨_, rfl⟩
    obtain ⟨b, hb⟩ : ∃ b, b = has l p.toList := ⟨_, rfl⟩
    rw [← hi, ← hb] at HC2
    rw [← hi] at HC3 hle
    have hiz : (i : Int) ≤ n := by omega
    have hicz : (i : Int) ≤ c := by omega
    clear hl h hs hk h0 HE hT hTs hTT HR hi hb hp
    cases q with
    | none =>
      go_enter Try.func10, Try.ntmps10
      go_wp2_with fail
      refine C.mono ?_
      rintro e w2 ⟨rfl, hb2⟩
      have HB2 : Hid (Below w.heap.size w w2) := hb2
      have C2 := HC2.out w2 hb2
      clear hb2 C
      go_wp2_with fail
      refine C2.mono ?_
      rintro e w3 ⟨rfl, hb3⟩
      have HB3 : Hid (Below w.heap.size w w3) := bel HB2.out hb3
      have C3 := HC3.out w3 HB3.out
      clear hb3 C2
      go_wp2_with fail
      refine C3.mono ?_
      rintro e w4 ⟨rfl, hb4⟩
      have HB4 : Hid (Below w.heap.size w w4) := bel HB3.out hb4
      clear hb4 C3
      go_wp2_with fail
      go_ret2
      exact ⟨rfl, HB4.out⟩
    | some a =>
      go_enter Try.func10, Try.ntmps10
      go_wp2_with fail
      refine C.mono ?_
      rintro e w2 ⟨rfl, hb2⟩
      have HB2 : Hid (Below w.heap.size w w2) := hb2
      have C2 := HC2.out w2 hb2
      clear hb2 C
      go_wp2_with fail
      refine C2.mono ?_
      rintro e w3 ⟨rfl, hb3⟩
      have HB3 : Hid (Below w.heap.size w w3) := bel HB2.out hb3
      have C3 := HC3.out w3 HB3.out
      clear hb3 C2
      go_wp2_with fail
      refine C3.mono ?_
      rintro e w4 ⟨rfl, hb4⟩
      have HB4 : Hid (Below w.heap.size w w4) := bel HB3.out hb4
      clear hb4 C3
      go_wp2_with fail
      go_ret2
      exact ⟨rfl, HB4.out⟩
  · obtain ⟨k, hk⟩ : ∃ k, k = withE l p := ⟨_, rfl⟩
    have HT : Hid (offR l p = 0) := by unfold Hid offR; rw [if_neg h0]
    have HE : Hid (errV (withE l p) = .iface 59 (.int .i64 k)) := by unfold Hid; rw [errV_ne h0, hk]
    rw [HE.out] at C
    rw [HE.out, HT.out]
    clear hl h hs hn h0 hk HT HE
    go_enter Try.func10, Try.ntmps10
    go_wp2_with fail
    refine C.mono ?_
    rintro e w2 ⟨rfl, hb2⟩
    have HB2 : Hid (Below w.heap.size w w2) := hb2
    clear hb2 C
    go_wp2_with fail
    go_ret2
    exact ⟨rfl, HB2.out⟩

/- the closure by which book.At seeks: it counts those that are seen in a variable of its own -/
theorem seek_no (A O : Nat) (s : ByteArray) (n : Int) (b : Bool) (w : World) (hx : isS (s, n, b) = false) :
    Calls Try.prog 29 #[.agg #[.string s, .int .i64 n, .bool b], .pointer (some ⟨A, 0, none⟩), .pointer (some ⟨O, 0, none⟩)] w fun e w' => e = .returned (.bool false) ∧ Below w.heap.size w w' := by
  have C := isSeen_any s n b (w.alloc (.cells #[.string s, .int .i64 n, .bool b] 28))
  rw [hx] at C
  clear hx
  go_enter Try.func29, Try.ntmps29
  go_wp2_with fail
  refine C.mono ?_
  rintro e w2 ⟨rfl, hb2⟩
  have HB2 : Hid (Below w.heap.size w w2) := bel_new (Below.refl _ _) hb2
  clear hb2 C
  go_wp2_with fail
  go_ret
  exact ⟨rfl, HB2.out⟩
theorem seek_yes (A O B : Nat) (s : ByteArray) (n a f : Int) (b : Bool) (w : World) (hx : isS (s, n, b) = true) (hA : w.cell? ⟨A, 0, none⟩ = some (.int .i64 a)) (hO : w.cell? ⟨O, 0, none⟩ = some (.int .i64 f)) (hf : w.frozen? ⟨A, 0, none⟩ = false) (hne : A ≠ O) (hBA : B ≤ A) (hB : B ≤ w.heap.size) (h0 : 0 ≤ a) (h1 : a ≤ 1048576) :
    Calls Try.prog 29 #[.agg #[.string s, .int .i64 n, .bool b], .pointer (some ⟨A, 0, none⟩), .pointer (some ⟨O, 0, none⟩)] w fun e w' => e = .returned (.bool (decide (f < a + 1))) ∧ w'.cell? ⟨A, 0, none⟩ = some (.int .i64 (a + 1)) ∧ w'.cell? ⟨O, 0, none⟩ = some (.int .i64 f) ∧ w'.frozen? ⟨A, 0, none⟩ = false ∧ Below B w w' ∧ w.heap.size ≤ w'.heap.size := by
  have C := isSeen_any s n b (w.alloc (.cells #[.string s, .int .i64 n, .bool b] 28))
  rw [hx] at C
  have HLA : Hid (A < w.heap.size) := World.block_lt_of_cell? _ _ hA
  have HLO : Hid (O < w.heap.size) := World.block_lt_of_cell? _ _ hO
  have HA : Hid (w.cell? ⟨A, 0, none⟩ = some (.int .i64 a)) := hA
  have HO : Hid (w.cell? ⟨O, 0, none⟩ = some (.int .i64 f)) := hO
  have HF : Hid (w.frozen? ⟨A, 0, none⟩ = false) := hf
  clear hx hA hO hf
  go_enter Try.func29, Try.ntmps29
  go_wp2_with fail
  refine C.mono ?_
  rintro e w2 ⟨rfl, hb2⟩
  have HB2 : Hid (Below w.heap.size w w2) := bel_new (Below.refl _ _) hb2
  have d1 : w2.cell? ⟨A, 0, none⟩ = some (.int .i64 a) := (HB2.out.cell HLA.out).trans HA.out
  have d2 : w2.cell? ⟨O, 0, none⟩ = some (.int .i64 f) := (HB2.out.cell HLO.out).trans HO.out
  have d3 : w2.frozen? ⟨A, 0, none⟩ = false := (HB2.out.frozen HLA.out).trans HF.out
  have d4 : (w2.setCell ⟨A, 0, none⟩ (.int .i64 (a + 1))).cell? ⟨A, 0, none⟩ = some (.int .i64 (a + 1)) := World.cell?_setCell_same _ _ _ d1
  have d5 : (w2.setCell ⟨A, 0, none⟩ (.int .i64 (a + 1))).cell? ⟨O, 0, none⟩ = some (.int .i64 f) := (World.cell?_setCell_other _ _ _ _ (by intro e2; injection e2; omega)).trans d2
  clear hb2 C
  go_wp2_with fail
  all_goals
    go_ret
    refine ⟨ret_bool (by first | rfl | simp [*]), d4, d5, ?_, ?_, ?_⟩
    · rw [World.frozen?_setCell]; exact d3
    · exact (HB2.out.mono hB).setCell (p := ⟨A, 0, none⟩) hBA _
    · have := HB2.out.size; simpa using this

theorem nth_drop {l : List Leaf} {k : Nat} (hk : k < l.length) (r : Int) : nth (l.drop k) k r = if isS (l.getD k none0) then (if r = 0 then (k : Int) else nth (l.drop (k + 1)) (k + 1) (r - 1)) else nth (l.drop (k + 1)) (k + 1) r := by
  rw [drop_at hk]; rfl

set_option maxHeartbeats 1000000 in
theorem index_any (q : Option Addr) (n c A O : Nat) (l : List Leaf) (f : Int) (W w : World) (hl : l.length = n) (h : LeafsIn W q l) (hb : Below W.heap.size W w) (hA : w.cell? ⟨A, 0, none⟩ = some (.int .i64 0)) (hO : w.cell? ⟨O, 0, none⟩ = some (.int .i64 f)) (hf : w.frozen? ⟨A, 0, none⟩ = false) (hne : A ≠ O) (hBA : W.heap.size ≤ A) (h0 : 0 ≤ f) (hn : n ≤ 1048576) :
    Calls Try.prog 28 #[.slice q n c, .func (.func 29) #[] #[.pointer (some ⟨A, 0, none⟩), .pointer (some ⟨O, 0, none⟩)]] w fun e w' => e = .returned (.int .i64 (nth l 0 f)) ∧ Below W.heap.size W w' := by
  have HL : Hid (l.length = n) := hl
  have HI : Hid (LeafsIn W q l) := h
  have HS : Hid (Below W.heap.size W w ∧ w.cell? ⟨A, 0, none⟩ = some (.int .i64 0) ∧ w.cell? ⟨O, 0, none⟩ = some (.int .i64 f) ∧ w.frozen? ⟨A, 0, none⟩ = false) := ⟨hb, hA, hO, hf⟩
  clear hl h hb hA hO hf
  go_enter Try.func28, Try.ntmps28
  go_wp2
  go_loopw [5, 8] (fun _ i wr => ∃ (k : Nat) (a : Int), k ≤ n ∧ i = .int .i64 k ∧ Hid (0 ≤ a ∧ a ≤ k ∧ a ≤ f ∧ nth (l.drop k) k (f - a) = nth l 0 f) ∧ Hid (Below W.heap.size W wr ∧ wr.cell? ⟨A, 0, none⟩ = some (.int .i64 a) ∧ wr.cell? ⟨O, 0, none⟩ = some (.int .i64 f) ∧ wr.frozen? ⟨A, 0, none⟩ = false)) (fun _ i _ => n - (intOf i).toNat)
  case atStart => exact ⟨0, 0, by omega, rfl, ⟨by omega, by omega, by omega, by rw [List.drop_zero, Int.sub_zero]⟩, HS⟩
  case round =>
    clear HS
    obtain ⟨k, a, hk, rfl, HN, HS⟩ := hrel
    by_cases hlt : k < n
    · have hltz : (k : Int) < n := by omega
      obtain ⟨b, o, rfl, hc⟩ := HI.out.some (by intro e; have := HL.out; rw [e] at this; simp at this; omega)
      have hkl : k < l.length := by rw [HL.out]; exact hlt
      have ha := (hc k hkl).below HS.out.1 (hc k hkl).lt
      have HD : Hid (nth (l.drop k) k (f - a) = if isS (l.getD k none0) then (if f - a = 0 then (k : Int) else nth (l.drop (k + 1)) (k + 1) (f - a - 1)) else nth (l.drop (k + 1)) (k + 1) (f - a)) := nth_drop hkl _
      obtain ⟨x, hx⟩ : ∃ x, x = l.getD k none0 := ⟨_, rfl⟩
      rw [← hx] at ha HD
      obtain ⟨sx, nx, bx⟩ := x
      obtain ⟨a1, a2, a3⟩ := ha
      clear hc hx
      simp only at a1 a2 a3
      obtain ⟨hn1, hn2, hn3, hn4⟩ := HN.out
      cases hse : isS (sx, nx, bx)
      · have C := seek_no A O sx nx bx wr hse
        rw [hse] at HD
        have HN2 : Hid (0 ≤ a ∧ a ≤ ((k + 1 : Nat) : Int) ∧ a ≤ f ∧ nth (l.drop (k + 1)) (k + 1) (f - a) = nth l 0 f) := ⟨hn1, by omega, hn3, by rw [← hn4, HD.out]; rfl⟩
        clear HD hse hn4
        go_wp2_with fail
        refine C.mono ?_
        rintro e w2 ⟨rfl, hb2⟩
        have HS2 : Hid (Below W.heap.size W w2 ∧ w2.cell? ⟨A, 0, none⟩ = some (.int .i64 a) ∧ w2.cell? ⟨O, 0, none⟩ = some (.int .i64 f) ∧ w2.frozen? ⟨A, 0, none⟩ = false) :=
          ⟨bel HS.out.1 hb2, (hb2.cell (World.block_lt_of_cell? _ _ HS.out.2.1)).trans HS.out.2.1, (hb2.cell (World.block_lt_of_cell? _ _ HS.out.2.2.1)).trans HS.out.2.2.1, (hb2.frozen (p := ⟨A, 0, none⟩) (World.block_lt_of_cell? _ _ HS.out.2.1)).trans HS.out.2.2.2⟩
        clear hb2 C
        go_wp2_with fail
        go_roundw
        case rel => exact ⟨k + 1, a, by omega, by go_num, HN2, HS2⟩
        case measure => simp [intOf]; omega
      · have C := seek_yes A O W.heap.size sx nx a f bx wr hse HS.out.2.1 HS.out.2.2.1 HS.out.2.2.2 hne hBA HS.out.1.size hn1 (by omega)
        rw [hse] at HD
        by_cases hfa : f < a + 1
        · rw [decide_eq_true hfa] at C
          have HR : Hid (nth l 0 f = (k : Int)) := by unfold Hid; rw [← hn4, HD.out, if_pos rfl, if_pos (by omega)]
          clear HD hse hn4
          go_wp2_with fail
          refine C.mono ?_
          rintro e w2 ⟨rfl, d1, d2, d3, d4, d5⟩
          have HB2 : Hid (Below W.heap.size W w2) := HS.out.1.trans d4
          clear d1 d2 d3 d4 d5 C
          go_wp2_with fail
          go_ret
          exact ⟨by rw [HR.out]; rfl, HB2.out⟩
        · rw [decide_eq_false hfa] at C
          have HN2 : Hid (0 ≤ a + 1 ∧ a + 1 ≤ ((k + 1 : Nat) : Int) ∧ a + 1 ≤ f ∧ nth (l.drop (k + 1)) (k + 1) (f - (a + 1)) = nth l 0 f) := ⟨by omega, by omega, by omega, by rw [← hn4, HD.out, if_pos rfl, if_neg (by omega), show f - (a + 1) = f - a - 1 by omega]⟩
          clear HD hse hn4
          go_wp2_with fail
          refine C.mono ?_
          rintro e w2 ⟨rfl, d1, d2, d3, d4, d5⟩
          have HS2 : Hid (Below W.heap.size W w2 ∧ w2.cell? ⟨A, 0, none⟩ = some (.int .i64 (a + 1)) ∧ w2.cell? ⟨O, 0, none⟩ = some (.int .i64 f) ∧ w2.frozen? ⟨A, 0, none⟩ = false) := ⟨HS.out.1.trans d4, d1, d2, d3⟩
          clear d1 d2 d3 d4 d5 C
          go_wp2_with fail
          go_roundw
          case rel => exact ⟨k + 1, a + 1, by omega, by go_num, HN2, HS2⟩
          case measure => simp [intOf]; omega
    · obtain rfl : k = n := by omega
      have HR : Hid (nth l 0 f = -1) := by
        unfold Hid; rw [← HN.out.2.2.2, List.drop_of_length_le (by rw [HL.out]; exact Nat.le_refl _)]; rfl
      go_wp2_with fail
      go_ret
      exact ⟨by rw [HR.out]; rfl, HS.out.1⟩

end Lf
end Go.Proofs.Ytaefoieoachdfaa
