/- Package stat: Struck and Longest, at every book. -/
import Derived.Test.YtiiiineipajhmaaSq3
namespace Go.Proofs.Ytiiiineipajhmaa
namespace Sq4
set_option linter.unusedVariables false
open Go.ChangeShapes Go.WideShapes Go.ChangeAt Go.RowKit Ka Kb Sq1 Sq2 Sq3
open Bm (Leaf none0 bookE leafE isS text bookE_zero getD_mem)
open La (bel bel_drew errV_zero errV_ne own_ge own_grow own_below LeafsIn)
open Lc (check_book)

def struckR (l : List Leaf) : Nat := if bookE l = 0 then struck l else 0
def longestR (l : List Leaf) : Nat := if bookE l = 0 then longest l else 0
theorem box3 (w : World) (s : ByteArray) (n : Int) (b : Bool) (t : TypeId) : (w.alloc (.cells #[.string s, .int .i64 n, .bool b] t)).cell? ⟨w.heap.size, 0, none⟩ = some (.string s) ∧ (w.alloc (.cells #[.string s, .int .i64 n, .bool b] t)).cell? ⟨w.heap.size, 2, none⟩ = some (.bool b) := by
  have h2 : (w.alloc (.cells #[.string s, .int .i64 n, .bool b] t)).heap[w.heap.size]? = some (.cells #[.string s, .int .i64 n, .bool b] t) := heap_alloc_new w _
  constructor <;> (simp only [World.cell?, h2]; rfl)

set_option maxRecDepth 100000 in
set_option maxHeartbeats 4000000 in
theorem struck_any (p : Option Addr) (n c : Nat) (l : List Leaf) (w : World) (hl : l.length = n) (h : LeafsIn w p l) (hs : ∀ x ∈ l, x.1.size ≤ maxLen) (hn : n ≤ maxLen) :
    Calls Try.prog 10 #[.slice p n c] w fun e w' => e = .returned (.tuple #[.int .i64 (struckR l), errV (bookE l)]) ∧ Hid (Below w.heap.size w w') := by
  have C := check_book p n c l w hl h hs hn
  unfold maxLen at hn
  by_cases h0 : bookE l = 0
  · have HR : Hid (struckR l = struck l) := by unfold Hid struckR; rw [if_pos h0]
    rw [h0, errV_zero] at C ⊢
    rw [HR.out]
    have hn3 : n ≤ 300 := by have := (bookE_zero.1 h0).1; omega
    have HL : Hid (l.length = n) := hl
    have HI : Hid (LeafsIn w p l) := h
    clear hl h hs h0
    go_enter Try.func10, Try.ntmps10
    go_wp2_with fail
    refine C.mono ?_
    rintro e w2 ⟨rfl, hb2⟩
    have HB2 : Hid (Below w.heap.size w w2) := hb2
    clear hb2 C
    go_wp2_with fail
    go_loopw [5, 7, 15] (fun v _ i wr => ∃ (k m : Nat), k ≤ n ∧ i = .int .i64 k ∧ v = .int .i64 m ∧ Hid (m = struck (l.take k)) ∧ Hid (Below w.heap.size w wr)) (fun _ _ i _ => n - (intOf i).toNat)
    case atStart => exact ⟨0, 0, by omega, rfl, rfl, by unfold Hid; rfl, HB2⟩
    case round =>
      clear HB2
      obtain ⟨k, m, hk, rfl, rfl, HM, HB⟩ := hrel
      by_cases hlt : k < n
      · have hltz : (k : Int) < n := by omega
        obtain ⟨b, o, rfl, hc⟩ := HI.out.some (by intro e; have := HL.out; rw [e] at this; simp at this; omega)
        have hkl : k < l.length := by rw [HL.out]; exact hlt
        have ha := (hc k hkl).below HB.out (hc k hkl).lt
        have HT := struck_take hkl
        have hmk : m ≤ 300 := by
          have := struck_le (l.take k); rw [List.length_take, ← HM.out] at this; omega
        rw [← HM.out] at HT
        obtain ⟨x, hx⟩ : ∃ x, x = l.getD k none0 := ⟨_, rfl⟩
        rw [← hx] at ha HT
        obtain ⟨sx, nx, bx⟩ := x
        obtain ⟨a1, a2, a3⟩ := ha
        clear hc hx
        simp only at a1 a2 a3 HT
        have HT2 : Hid (struck (l.take (k + 1)) = if bx = true then m + 1 else m) := HT
        have HBN : Hid (Below w.heap.size w (wr.alloc (.cells #[.string sx, .int .i64 nx, .bool bx] 29))) := HB.out.alloc HB.out.size _
        clear HT
        cases bx
        · have HM2 : Hid (m = struck (l.take (k + 1))) := by unfold Hid; rw [HT2.out]; rfl
          clear HT2
          go_wp2
          go_roundw
          case rel => exact ⟨k + 1, m, by omega, by go_num, rfl, HM2, HBN⟩
          case measure => simp [intOf]; omega
        · have HM2 : Hid (m + 1 = struck (l.take (k + 1))) := by unfold Hid; rw [HT2.out]; rfl
          clear HT2
          go_wp2
          go_roundw
          case rel => exact ⟨k + 1, m + 1, by omega, by go_num, by go_num, HM2, HBN⟩
          case measure => simp [intOf]; omega
      · obtain rfl : k = n := by omega
        have HN : Hid (m = struck l) := by
          have := HM.out
          rwa [List.take_of_length_le (by rw [HL.out]; exact Nat.le_refl _)] at this
        go_wp2_with fail
        go_ret2
        exact ⟨by rw [← HN.out]; rfl, HB⟩
  · obtain ⟨q, hq⟩ : ∃ q, q = bookE l := ⟨_, rfl⟩
    have HR : Hid (struckR l = 0) := by unfold Hid struckR; rw [if_neg h0]
    rw [errV_ne h0, ← hq] at C ⊢
    rw [HR.out]
    clear hl h hs h0 hq
    go_enter Try.func10, Try.ntmps10
    go_wp2_with fail
    refine C.mono ?_
    rintro e w2 ⟨rfl, hb2⟩
    have HB2 : Hid (Below w.heap.size w w2) := hb2
    clear hb2 C
    go_wp2_with fail
    go_ret2
    exact ⟨rfl, HB2⟩

end Sq4
end Go.Proofs.Ytiiiineipajhmaa
