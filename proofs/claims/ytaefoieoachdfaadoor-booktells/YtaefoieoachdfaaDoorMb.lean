/- What the reference says of what is seen: Text, Nth, Ahead. -/
import Derived.Test.YtaefoieoachdfaaDoorLp
import Derived.Test.YtaefoieoachdfaaDoorLf
namespace Go.Proofs.YtaefoieoachdfaaDoor
namespace Mb
set_option linter.unusedVariables false
open Go.ChangeShapes Go.WideShapes Go.ChangeAt Go.RowKit Bm Ka Kb La Lb Lc Ld Le Lf Lp

set_option maxHeartbeats 1000000 in
theorem text_ref (q : Option Addr) (n c : Nat) (l : List Leaf) (w : World) (hl : l.length = n) (h : LeafsIn w q l) (ho : ∀ x ∈ l, x.2.1 = 0 ∨ isL x.2.1 = true) (hn : n ≤ 1048576) :
    Calls Tryd.prog 9 #[.slice q n c] w fun e w' => e = .returned (.string ⟨(text l).toArray⟩) ∧ Below w.heap.size w w' := by
  have HL : Hid (l.length = n) := hl
  have HI : Hid (LeafsIn w q l) := h
  have HO : Hid (∀ x ∈ l, x.2.1 = 0 ∨ isL x.2.1 = true) := ho
  obtain ⟨i0, hi, hz0, hz1, hz2⟩ := info_parts infoByte
  clear hl h ho
  go_enter Tryd.func9, Tryd.ntmps9
  go_wp2
  go_loopw [3, 4, 5] (fun v i _ wr => ∃ (k : Nat), k ≤ n ∧ i = .int .i64 k ∧ Hid (wr.ownsRow w.heap.size 5 1 v (text (l.take k)).length (bc (text (l.take k)))) ∧ Hid (Below w.heap.size w wr)) (fun _ i _ _ => n - (intOf i).toNat)
  case atStart => exact ⟨0, by omega, rfl, World.ownsRow_nil _ _ _ _, Below.refl _ _⟩
  case round =>
    obtain ⟨k, hk, rfl, HW, HB⟩ := hrel
    by_cases hlt : k < n
    · have hltz : (k : Int) < n := by omega
      obtain ⟨b, o, rfl, hc⟩ := HI.out.some (by intro e; have := HL.out; rw [e] at this; simp at this; omega)
      have hkl : k < l.length := by rw [HL.out]; exact hlt
      have HC : Hid (At w b o k (l.getD k none0)) := hc k hkl
      have ha := (hc k hkl).below HB.out (hc k hkl).lt
      have hoo := HO.out _ (getD_mem hkl)
      have HT : Hid (text (l.take (k + 1)) = if isS (l.getD k none0) then text (l.take k) ++ [letter (l.getD k none0)] else text (l.take k)) := take_text hkl
      have htl : (text (l.take k)).length ≤ 1048576 := by
        have h1 := text_len_le (l.take k)
        rw [List.length_take] at h1
        omega
      obtain ⟨x, hx⟩ : ∃ x, x = l.getD k none0 := ⟨_, rfl⟩
      rw [← hx] at ha hoo HT HC
      obtain ⟨sx, nx, bx⟩ := x
      obtain ⟨a1, a2, a3⟩ := ha
      clear hc hx
      simp only at a1 a2 a3 hoo
      have C := seen_ref sx nx bx wr
      obtain ⟨tx, htx⟩ : ∃ tx, tx = text (l.take k) := ⟨_, rfl⟩
      rw [← htx] at HW HT htl
      cases hse : isS (sx, nx, bx)
      · rw [hse] at C HT
        have HW2 : Hid (wr.ownsRow w.heap.size 5 1 u3 (text (l.take (k + 1))).length (bc (text (l.take (k + 1))))) := by
          unfold Hid; rw [HT.out]; exact HW.out
        clear hse htx hoo
        go_wp2_with fail
        refine C.mono ?_
        rintro e w2 ⟨rfl, hb2⟩
        have HB2 : Hid (Below w.heap.size w w2) := bel HB.out hb2
        have HW3 : Hid (w2.ownsRow w.heap.size 5 1 u3 (text (l.take (k + 1))).length (bc (text (l.take (k + 1))))) := own_below HW2.out hb2
        clear hb2 C a1 a2 a3
        go_wp2_with fail
        go_roundw
        case rel => exact ⟨k + 1, by omega, by go_num, HW3, HB2⟩
        case measure => simp [intOf]; omega
      · rw [hse] at C HT
        have hnx : isL nx = true := by
          rcases hoo with e | e
          · unfold isS at hse; rw [e] at hse; simp at hse
          · exact e
        have hnb := isL_ne hnx
        have HLT : Hid (((letter (sx, nx, bx)).toNat : Int) = nx) := letter_nat (x := (sx, nx, bx)) hnx
        clear hse htx hoo hnx
        obtain ⟨hnb1, hnb2, hnb3⟩ := hnb
        go_wp2_with fail
        refine C.mono ?_
        rintro e w2 ⟨rfl, hb2⟩
        have HB2 : Hid (Below w.heap.size w w2) := bel HB.out hb2
        have d2 := (HC.out.below HB2.out HC.out.lt).2.1
        simp only at d2
        have HW3 : Hid (w2.ownsRow w.heap.size 5 1 u3 tx.length (bc tx)) := own_below HW.out hb2
        clear hb2 C a1 a2 a3
        go_wp2_with (at_builtin; refine wpList_append_own_at _ rfl (.tmp 18) (.tmp 25) 49 rfl w.heap.size 5 i0 (.int .u8 0) 1 1 Tryd.underlying49 hi hz0 hz1 hz2 rfl (by decide) u3 _ _ rfl (HW3.out.alloc _) ⟨w2.heap.size, 0, none⟩ 1 1 [.int .u8 nx] rfl rfl (cell_one_new _ _ _) (by intro u hu; simp at hu; subst hu; rfl) (by unfold maxLen; omega) (by omega) (by have := HB2.out.size; simp; omega) ?_; intro v' w3 hown' hgrow _ hat; have HB3 : Hid (Below w.heap.size w w3) := (own_grow HW3.out (HB2.out.alloc HB2.out.size _) hgrow (by have := HB2.out.size; simp; omega)); have HW4 : Hid (w3.ownsRow w.heap.size 5 1 v' (text (l.take (k + 1))).length (bc (text (l.take (k + 1))))) := (by unfold Hid; rw [HT.out]; exact own_one HLT.out hown'); clear hown' hgrow hat)
        go_roundw
        case rel => exact ⟨k + 1, by omega, by go_num, HW4, HB3⟩
        case measure => simp [intOf]; omega
    · obtain rfl : k = n := by omega
      have hcv : (convert 49 9 u3).run Tryd.prog wr = .ok (.string ⟨(text l).toArray⟩) wr := by
        have := own_text HW.out
        rwa [List.take_of_length_le (by rw [HL.out]; exact Nat.le_refl _)] at this
      go_wp2_with fail
      go_ret
      exact ⟨rfl, HB.out⟩

set_option maxHeartbeats 1000000 in
theorem nth_ref (q : Option Addr) (n c : Nat) (l : List Leaf) (f : Int) (w : World) (hl : l.length = n) (h : LeafsIn w q l) (hn : n ≤ 1048576) (hf : 0 ≤ f) :
    Calls Tryd.prog 10 #[.slice q n c, .int .i64 f] w fun e w' => e = .returned (.int .i64 (nth l 0 f)) ∧ Below w.heap.size w w' := by
  have HL : Hid (l.length = n) := hl
  have HI : Hid (LeafsIn w q l) := h
  clear hl h
  go_enter Tryd.func10, Tryd.ntmps10
  go_wp2
  go_loopw [5, 6, 7] (fun m i _ wr => ∃ (k : Nat) (a : Int), k ≤ n ∧ i = .int .i64 k ∧ m = .int .i64 a ∧ Hid (0 ≤ a ∧ a ≤ k ∧ a ≤ f ∧ nth (l.drop k) k (f - a) = nth l 0 f) ∧ Hid (Below w.heap.size w wr)) (fun _ i _ _ => n - (intOf i).toNat)
  case atStart => exact ⟨0, 0, by omega, rfl, rfl, ⟨by omega, by omega, hf, by rw [List.drop_zero, Int.sub_zero]⟩, Below.refl _ _⟩
  case round =>
    obtain ⟨k, a, hk, rfl, rfl, HN, HB⟩ := hrel
    by_cases hlt : k < n
    · have hltz : (k : Int) < n := by omega
      obtain ⟨b, o, rfl, hc⟩ := HI.out.some (by intro e; have := HL.out; rw [e] at this; simp at this; omega)
      have hkl : k < l.length := by rw [HL.out]; exact hlt
      have ha := (hc k hkl).below HB.out (hc k hkl).lt
      have HD : Hid (nth (l.drop k) k (f - a) = if isS (l.getD k none0) then (if f - a = 0 then (k : Int) else nth (l.drop (k + 1)) (k + 1) (f - a - 1)) else nth (l.drop (k + 1)) (k + 1) (f - a)) := nth_drop hkl _
      obtain ⟨x, hx⟩ : ∃ x, x = l.getD k none0 := ⟨_, rfl⟩
      rw [← hx] at ha HD
      obtain ⟨sx, nx, bx⟩ := x
      obtain ⟨a1, a2, a3⟩ := ha
      clear hc hx
      simp only at a1 a2 a3
      obtain ⟨hn1, hn2, hn3, hn4⟩ := HN.out
      have C := seen_ref sx nx bx wr
      cases hse : isS (sx, nx, bx)
      · rw [hse] at C HD
        have HN2 : Hid (0 ≤ a ∧ a ≤ ((k + 1 : Nat) : Int) ∧ a ≤ f ∧ nth (l.drop (k + 1)) (k + 1) (f - a) = nth l 0 f) := ⟨hn1, by omega, hn3, by rw [← hn4, HD.out]; rfl⟩
        clear HD hse hn4
        go_wp2_with fail
        refine C.mono ?_
        rintro e w2 ⟨rfl, hb2⟩
        have HB2 : Hid (Below w.heap.size w w2) := bel HB.out hb2
        clear hb2 C
        go_wp2_with fail
        go_roundw
        case rel => exact ⟨k + 1, a, by omega, by go_num, rfl, HN2, HB2⟩
        case measure => simp [intOf]; omega
      · rw [hse] at C HD
        by_cases hfa : a = f
        · have HR : Hid (nth l 0 f = (k : Int)) := by unfold Hid; rw [← hn4, HD.out, if_pos rfl, if_pos (by omega)]
          have hfb : (a == f) = true := by simpa using hfa
          clear HD hse hn4 hfa
          go_wp2_with fail
          refine C.mono ?_
          rintro e w2 ⟨rfl, hb2⟩
          have HB2 : Hid (Below w.heap.size w w2) := bel HB.out hb2
          clear hb2 C
          go_wp2_with fail
          go_ret
          exact ⟨by rw [HR.out]; rfl, HB2.out⟩
        · have HN2 : Hid (0 ≤ a + 1 ∧ a + 1 ≤ ((k + 1 : Nat) : Int) ∧ a + 1 ≤ f ∧ nth (l.drop (k + 1)) (k + 1) (f - (a + 1)) = nth l 0 f) := ⟨by omega, by omega, by omega, by rw [← hn4, HD.out, if_pos rfl, if_neg (by omega), show f - (a + 1) = f - a - 1 by omega]⟩
          have hfb : (a == f) = false := by simpa using hfa
          clear HD hse hn4
          go_wp2_with fail
          refine C.mono ?_
          rintro e w2 ⟨rfl, hb2⟩
          have HB2 : Hid (Below w.heap.size w w2) := bel HB.out hb2
          clear hb2 C
          go_wp2_with fail
          go_roundw
          case rel => exact ⟨k + 1, a + 1, by omega, by go_num, by go_num, HN2, HB2⟩
          case measure => simp [intOf]; omega
    · obtain rfl : k = n := by omega
      have HR : Hid (nth l 0 f = -1) := by
        unfold Hid; rw [← HN.out.2.2.2, List.drop_of_length_le (by rw [HL.out]; exact Nat.le_refl _)]; rfl
      go_wp2_with fail
      go_ret
      exact ⟨by rw [HR.out]; rfl, HB.out⟩

theorem ahd_at : ∀ {l : List Leaf} {p : List UInt8} {k : Nat}, k ≤ l.length → (∀ j, j < k → Op.bytesLess (l.getD j none0).1.toList p = true) → (k < l.length → Op.bytesLess (l.getD k none0).1.toList p = false) → ahd l p = k
  | [], p, k, hk, _, _ => by simp at hk; subst hk; rfl
  | x :: l, p, 0, _, _, h => by
    have := h (by simp)
    have e : Op.bytesLess x.1.toList p = false := this
    simp [ahd, e]
  | x :: l, p, k + 1, hk, h1, h2 => by
    have e : Op.bytesLess x.1.toList p = true := h1 0 (by omega)
    have ih := ahd_at (l := l) (p := p) (k := k) (by simpa using hk) (fun j hj => h1 (j + 1) (by omega)) (fun hj => h2 (by simpa using hj))
    have e2 : ahd (x :: l) p = ahd l p + 1 := by simp [ahd, e]
    rw [e2, ih]

set_option maxHeartbeats 1000000 in
theorem ahead_ref (q : Option Addr) (n c : Nat) (l : List Leaf) (p : ByteArray) (w : World) (hl : l.length = n) (h : LeafsIn w q l) (hn : n ≤ 1048576) :
    Calls Tryd.prog 14 #[.slice q n c, .string p] w fun e w' => e = .returned (.int .i64 (ahd l p.toList)) ∧ w' = w := by
  have HL : Hid (l.length = n) := hl
  have HI : Hid (LeafsIn w q l) := h
  clear hl h
  go_enter Tryd.func14, Tryd.ntmps14
  go_wp2
  go_loop [5] (fun i => ∃ (k : Nat), k ≤ n ∧ i = .int .i64 k ∧ Hid (∀ j, j < k → Op.bytesLess (l.getD j none0).1.toList p.toList = true)) (fun i => n - (intOf i).toNat)
  case atStart => exact ⟨0, by omega, rfl, fun j hj => absurd hj (by omega)⟩
  case round =>
    obtain ⟨k, hk, rfl, HK⟩ := hrel
    by_cases hlt : k < n
    · have hltz : (k : Int) < n := by omega
      obtain ⟨b, o, rfl, hc⟩ := HI.out.some (by intro e; have := HL.out; rw [e] at this; simp at this; omega)
      have hkl : k < l.length := by rw [HL.out]; exact hlt
      have a1 := (hc k hkl).1
      obtain ⟨x, hx⟩ : ∃ x, x = (l.getD k none0).1 := ⟨_, rfl⟩
      rw [← hx] at a1
      have HX : Hid (x = (l.getD k none0).1) := hx
      clear hc hx
      cases hr : Op.bytesLess x.toList p.toList
      · have HR : Hid (ahd l p.toList = k) := ahd_at (by omega) HK.out (fun _ => by rw [← HX.out]; exact hr)
        go_wp2_with fail
        go_ret
        exact ⟨by rw [HR.out]; rfl, rfl⟩
      · have HK2 : Hid (∀ j, j < k + 1 → Op.bytesLess (l.getD j none0).1.toList p.toList = true) := by
          intro j hj
          rcases Nat.lt_succ_iff_lt_or_eq.1 hj with h | rfl
          · exact HK.out j h
          · rw [← HX.out]; exact hr
        go_wp2_with fail
        go_round
        case rel => exact ⟨k + 1, by omega, by go_num, HK2⟩
        case measure => simp [intOf]; omega
    · obtain rfl : k = n := by omega
      have HR : Hid (ahd l p.toList = k) := ahd_at (by rw [HL.out]; exact Nat.le_refl _) HK.out (fun h => by rw [HL.out] at h; omega)
      go_wp2_with fail
      go_ret
      exact ⟨by rw [HR.out]; rfl, rfl⟩

end Mb
end Go.Proofs.YtaefoieoachdfaaDoor
