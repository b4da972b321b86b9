/- What strings.Compare and book.Find answer. -/
import Derived.Test.YtaefoieoachdfaaLc
import Derived.Lib.Bytealg
import Derived.Laws.Externs
namespace Go.Proofs.Ytaefoieoachdfaa
namespace Ld
set_option linter.unusedVariables false
open Go.ChangeShapes Go.WideShapes Go.ChangeAt Go.RowKit Bm Ka Kb La Lb Lc

/- below: -1; the same: 0; above: 1 -/
def cmp (a b : ByteArray) : Int := Lib.compareBytes a.data.toList b.data.toList
theorem cmpL_less : ∀ a b : List UInt8, (Lib.compareBytes a b < 0 ↔ Op.bytesLess a b = true) ∧ (Lib.compareBytes a b = 0 ↔ a = b)
  | [], [] => by simp [Lib.compareBytes, Op.bytesLess]
  | [], _ :: _ => by simp [Lib.compareBytes, Op.bytesLess]
  | _ :: _, [] => by simp [Lib.compareBytes, Op.bytesLess]
  | x :: a, y :: b => by
    obtain ⟨h1, h2⟩ := cmpL_less a b
    unfold Lib.compareBytes
    by_cases hlt : x < y
    · rw [if_pos hlt]
      have hne : x ≠ y := by rintro rfl; exact absurd hlt (UInt8.lt_irrefl x)
      simp [Op.bytesLess, hlt, hne]
    · rw [if_neg hlt]
      by_cases hgt : y < x
      · rw [if_pos hgt]
        have hne : x ≠ y := by rintro rfl; exact absurd hgt (UInt8.lt_irrefl x)
        simp [Op.bytesLess, hlt, hne]
      · rw [if_neg hgt]
        have e : x = y := UInt8.le_antisymm (UInt8.not_lt.1 hgt) (UInt8.not_lt.1 hlt)
        subst e
        constructor
        · rw [h1]; simp [Op.bytesLess, hlt]
        · rw [h2]; simp
theorem cmp_lt (a b : ByteArray) : cmp a b < 0 ↔ Op.bytesLess a.toList b.toList = true := by
  unfold cmp; rw [ByteArray.toList_eq, ByteArray.toList_eq]; exact (cmpL_less _ _).1
theorem cmp_eq (a b : ByteArray) : cmp a b = 0 ↔ a.toList = b.toList := by
  unfold cmp; rw [ByteArray.toList_eq, ByteArray.toList_eq]; exact (cmpL_less _ _).2

theorem entry (args : Array Value) (w : World) : (callFunc 56 args).run Try.prog w = ((Extern.BytealgCompare.compare args).run Try.prog w).andThen fun v w' => .ok (.value v) w' :=
  run_callFunc_extern Try.func56 (by kernel_rfl) (by kernel_rfl) (by kernel_rfl) (by kernel_rfl) args w
theorem entry2 (a b : ByteArray) (w : World) : (callFunc 56 #[.string a, .string b]).run Try.prog w = .ok (.value (.int .i64 (cmp a b))) w := by
  rw [entry, Lib.run_compareString]; rfl

theorem compare_any (a b : ByteArray) (w : World) :
    Calls Try.prog 25 #[.string a, .string b] w fun e w' => e = .returned (.int .i64 (cmp a b)) ∧ w' = w := by
  have he := entry2
  go_enter Try.func25, Try.ntmps25
  go_wp2
  go_ret
  exact ⟨rfl, rfl⟩

theorem closure_any (s : ByteArray) (n : Int) (b : Bool) (p : ByteArray) (w : World) :
    Calls Try.prog 24 #[.agg #[.string s, .int .i64 n, .bool b], .string p] w fun e w' => e = .returned (.int .i64 (cmp s p)) ∧ Below w.heap.size w w' := by
  go_enter Try.func24, Try.ntmps24
  go_wp2_with (go_at_call 25; refine (compare_any s p _).mono ?_; rintro e w' ⟨rfl, hw⟩; have hw2 := hw.symm; subst hw2; clear hw)
  go_ret
  exact ⟨rfl, (Below.refl _ w).alloc (Nat.le_refl _) _⟩

set_option maxHeartbeats 1000000 in
theorem search_any (q : Option Addr) (n c : Nat) (l : List Leaf) (p : ByteArray) (w : World) (hl : l.length = n) (h : LeafsIn w q l) (hr : Rise l) (hn : n ≤ 1048576) :
    Calls Try.prog 23 #[.slice q n c, .string p, .func (.func 24) #[] #[]] w fun e w' => e = .returned (.tuple #[.int .i64 (ahd l p.toList), .bool (has l p.toList)]) ∧ Below w.heap.size w w' := by
  have HL : Hid (l.length = n) := hl
  have HI : Hid (LeafsIn w q l) := h
  have HR : Hid (Rise l) := hr
  clear hl h hr
  go_enter Try.func23, Try.ntmps23
  go_wp2
  go_loopw [9, 10, 11] (fun vi vj _ wr => ∃ (i j : Nat), i ≤ j ∧ j ≤ n ∧ vi = .int .i64 i ∧ vj = .int .i64 j ∧ Hid (∀ k, k < i → Op.bytesLess (l.getD k none0).1.toList p.toList = true) ∧ Hid (∀ k, j ≤ k → k < n → Op.bytesLess (l.getD k none0).1.toList p.toList = false) ∧ Hid (Below w.heap.size w wr)) (fun vi vj _ _ => (intOf vj).toNat - (intOf vi).toNat)
  case atStart => exact ⟨0, n, by omega, by omega, rfl, rfl, fun k hk => absurd hk (by omega), fun k h1 h2 => absurd h1 (by omega), Below.refl _ _⟩
  case round =>
    obtain ⟨i, j, hij, hjn, rfl, rfl, H1, H2, HB⟩ := hrel
    by_cases hlt : i < j
    · have hltz : (i : Int) < j := by omega
      obtain ⟨m, hm⟩ : ∃ m : Nat, ((i : Int) + j) / 2 = m := ⟨(i + j) / 2, by omega⟩
      have him : i ≤ m := by omega
      have hmj : m < j := by omega
      obtain ⟨b, o, rfl, hc⟩ := HI.out.some (by intro e; have := HL.out; rw [e] at this; simp at this; omega)
      have hml : m < l.length := by rw [HL.out]; omega
      have ha := (hc m hml).below HB.out (hc m hml).lt
      obtain ⟨x, hx⟩ : ∃ x, x = l.getD m none0 := ⟨_, rfl⟩
      rw [← hx] at ha
      have HX : Hid (x = l.getD m none0) := hx
      obtain ⟨sx, nx, bx⟩ := x
      obtain ⟨a1, a2, a3⟩ := ha
      have hmn : (m : Int) < n := by omega
      clear hc hx
      simp only at a1 a2 a3
      have C := closure_any sx nx bx p wr
      have HCL : Hid (cmp sx p < 0 ↔ Op.bytesLess sx.toList p.toList = true) := cmp_lt sx p
      obtain ⟨q, hq⟩ : ∃ q, q = cmp sx p := ⟨_, rfl⟩
      rw [← hq] at C HCL
      clear hq
      by_cases hz : q < 0
      · have H3 : Hid (∀ k, k < m + 1 → Op.bytesLess (l.getD k none0).1.toList p.toList = true) := by
          have h9 := HCL.out.1 hz
          have e9 : (l.getD m none0).1 = sx := by rw [← HX.out]
          rw [← e9] at h9
          intro k hk
          rcases Nat.lt_succ_iff_lt_or_eq.1 hk with h | rfl
          · exact less_trans (rise_lt HR.out h hml) h9
          · exact h9
        go_wp2_with fail
        refine C.mono ?_
        rintro e w2 ⟨rfl, hb2⟩
        have HB2 : Hid (Below w.heap.size w w2) := bel HB.out hb2
        clear hb2 C
        go_wp2_with fail
        go_roundw
        case rel => exact ⟨m + 1, j, by omega, by omega, by go_num, rfl, H3, H2, HB2⟩
        case measure => simp [intOf]; omega
      · have H3 : Hid (∀ k, m ≤ k → k < n → Op.bytesLess (l.getD k none0).1.toList p.toList = false) := by
          have h9 : Op.bytesLess sx.toList p.toList = false := by
            cases h8 : Op.bytesLess sx.toList p.toList
            · rfl
            · exact absurd (HCL.out.2 h8) hz
          have e9 : (l.getD m none0).1 = sx := by rw [← HX.out]
          rw [← e9] at h9
          intro k hk hk2
          rcases Nat.lt_or_eq_of_le hk with h | rfl
          · cases h8 : Op.bytesLess (l.getD k none0).1.toList p.toList
            · rfl
            · rw [less_trans (rise_lt HR.out h (by rw [HL.out]; exact hk2)) h8] at h9; cases h9
          · exact h9
        go_wp2_with fail
        refine C.mono ?_
        rintro e w2 ⟨rfl, hb2⟩
        have HB2 : Hid (Below w.heap.size w w2) := bel HB.out hb2
        clear hb2 C
        go_wp2_with fail
        go_roundw
        case rel => exact ⟨i, m, by omega, by omega, rfl, by go_num, H1, H3, HB2⟩
        case measure => simp [intOf]; omega
    · obtain rfl : i = j := by omega
      have HA : Hid (ahd l p.toList = i) := ahead_eq HR.out (by rw [HL.out]; exact hjn) H1.out (fun k h1 h2 => H2.out k h1 (by rw [← HL.out]; exact h2))
      by_cases hin : i < n
      · have hinz : (i : Int) < n := by omega
        obtain ⟨b, o, rfl, hc⟩ := HI.out.some (by intro e; have := HL.out; rw [e] at this; simp at this; omega)
        have hil : i < l.length := by rw [HL.out]; omega
        have ha := (hc i hil).below HB.out (hc i hil).lt
        obtain ⟨x, hx⟩ : ∃ x, x = l.getD i none0 := ⟨_, rfl⟩
        rw [← hx] at ha
        have HX : Hid (x = l.getD i none0) := hx
        obtain ⟨sx, nx, bx⟩ := x
        obtain ⟨a1, a2, a3⟩ := ha
        clear hc hx
        simp only at a1 a2 a3
        have C := closure_any sx nx bx p wr
        have HH : Hid (has l p.toList = (cmp sx p == 0)) := by
          unfold Hid has
          rw [HA.out, decide_eq_true (by rw [HL.out]; exact hin), Bool.true_and, ← HX.out, Bool.eq_iff_iff, beq_iff_eq, beq_iff_eq, cmp_eq]
        obtain ⟨q, hq⟩ : ∃ q, q = cmp sx p := ⟨_, rfl⟩
        rw [← hq] at C HH
        clear hq
        go_wp2_with fail
        refine C.mono ?_
        rintro e w2 ⟨rfl, hb2⟩
        have HB2 : Hid (Below w.heap.size w w2) := bel HB.out hb2
        clear hb2 C
        go_wp2_with fail
        go_ret2
        exact ⟨by rw [HA.out, HH.out]; rfl, HB2.out⟩
      · have hinz : ¬ (i : Int) < n := by omega
        have HH : Hid (has l p.toList = false) := by
          unfold Hid has; rw [HA.out, decide_eq_false (by rw [HL.out]; exact hin)]; rfl
        go_wp2_with fail
        go_ret2
        exact ⟨by rw [HA.out, HH.out]; rfl, HB.out⟩

theorem find_any (q : Option Addr) (n c : Nat) (l : List Leaf) (p : ByteArray) (w : World) (hl : l.length = n) (h : LeafsIn w q l) (hr : Rise l) (hn : n ≤ 1048576) :
    Calls Try.prog 8 #[.slice q n c, .string p] w fun e w' => e = .returned (.tuple #[.int .i64 (ahd l p.toList), .bool (has l p.toList)]) ∧ Below w.heap.size w w' := by
  have C := search_any q n c l p w hl h hr hn
  clear hl h hr hn
  obtain ⟨a, ha⟩ : ∃ a, a = ahd l p.toList := ⟨_, rfl⟩
  obtain ⟨b, hb⟩ : ∃ b, b = has l p.toList := ⟨_, rfl⟩
  rw [← ha, ← hb] at C ⊢
  clear ha hb
  go_enter Try.func8, Try.ntmps8
  go_wp2_with fail
  refine C.mono ?_
  rintro e w2 ⟨rfl, hb2⟩
  have HB2 : Hid (Below w.heap.size w w2) := hb2
  clear hb2 C
  go_wp2_with fail
  go_ret2
  exact ⟨rfl, HB2.out⟩

end Ld
end Go.Proofs.Ytaefoieoachdfaa
