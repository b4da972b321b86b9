/- What book.seenLetters, book.Text and book.Offset answer. -/
import Derived.Test.YtaefoieoachdfaaLd
import Derived.Test.YtaefoieoachdfaaBn
import Derived.Laws.IdiomStrings
import Derived.Laws.BytesArg
namespace Go.Proofs.Ytaefoieoachdfaa
namespace Le
set_option linter.unusedVariables false
open Go.ChangeShapes Go.WideShapes Go.ChangeAt Go.RowKit Bm Ka Kb La Lb Lc Ld

theorem infoByte : (Try.prog.info? 5).map (fun i => (i.zero, i.size, i.bytes)) = some (some (.int .u8 0), 1, 1) := by kernel_rfl
def bc (l : List UInt8) : List Value := l.map fun x => Value.int .u8 (x.toNat : Int)
theorem bc_length (l : List UInt8) : (bc l).length = l.length := by simp [bc]
theorem own_text {w : World} {base : Nat} {v : Value} {l : List UInt8} (h : w.ownsRow base 5 1 v l.length (bc l)) : (convert 86 9 v).run Try.prog w = .ok (.string ⟨l.toArray⟩) w := by
  rcases h.2 with ⟨rfl, h0⟩ | ⟨g, cap, cur, rfl, _, h2, h3, h4, h5, h6⟩
  · rw [List.eq_nil_of_length_eq_zero h0]
    exact run_convert_bytes_nil (P := Try.prog) (w := w) 86 5 Try.underlying86 Try.underlying5 0 0 9 Try.underlying9
  · refine run_convert_bytes_back (P := Try.prog) w 86 9 5 ⟨g, 0, none⟩ cap l Try.underlying86 Try.underlying5 Try.underlying9 ?_
    intro j hj
    have := h.cells (g := g) rfl j (.int .u8 (l[j].toNat : Int)) (by simp [bc, List.getElem?_eq_getElem hj])
    exact this
theorem own_one {w : World} {base : Nat} {t : TypeId} {v : Value} {tx : List UInt8} {c : UInt8} {nx : Int} (hc : (c.toNat : Int) = nx) (h : w.ownsRow base t 1 v (tx.length + 1) (bc tx ++ [.int .u8 nx])) : w.ownsRow base t 1 v (tx ++ [c]).length (bc (tx ++ [c])) := by
  have e : bc (tx ++ [c]) = bc tx ++ [.int .u8 nx] := by unfold bc; rw [List.map_append, ← hc]; rfl
  rw [e, List.length_append]; exact h
theorem take_text {l : List Leaf} {k : Nat} (hk : k < l.length) : text (l.take (k + 1)) = if isS (l.getD k none0) then text (l.take k) ++ [letter (l.getD k none0)] else text (l.take k) := by
  have e : l.take (k + 1) = l.take k ++ [l.getD k none0] := by
    rw [List.take_succ_eq_append_getElem hk, List.getD_eq_getElem?_getD, List.getElem?_eq_getElem hk]; rfl
  rw [e, text_append, text_cons]
  split
  · rfl
  · simp [text]

set_option maxHeartbeats 1000000 in
theorem letters_any (q : Option Addr) (n c : Nat) (l : List Leaf) (w : World) (hl : l.length = n) (h : LeafsIn w q l) (ho : ∀ x ∈ l, x.2.1 = 0 ∨ isL x.2.1 = true) (hn : n ≤ 1048576) :
    Calls Try.prog 27 #[.slice q n c] w fun e w' => e = .returned (.string ⟨(text l).toArray⟩) ∧ Below w.heap.size w w' := by
  have HL : Hid (l.length = n) := hl
  have HI : Hid (LeafsIn w q l) := h
  have HO : Hid (∀ x ∈ l, x.2.1 = 0 ∨ isL x.2.1 = true) := ho
  obtain ⟨i0, hi, hz0, hz1, hz2⟩ := info_parts infoByte
  clear hl h ho
  go_enter Try.func27, Try.ntmps27
  go_wp2
  go_loopw [3, 5, 8] (fun v _ i wr => ∃ (k : Nat), k ≤ n ∧ i = .int .i64 k ∧ Hid (wr.ownsRow w.heap.size 5 1 v (text (l.take k)).length (bc (text (l.take k)))) ∧ Hid (Below w.heap.size w wr)) (fun _ _ i _ => n - (intOf i).toNat)
  case atStart => exact ⟨0, by omega, rfl, World.ownsRow_nil _ _ _ _, Below.refl _ _⟩
  case round =>
    obtain ⟨k, hk, rfl, HW, HB⟩ := hrel
    by_cases hlt : k < n
    · have hltz : (k : Int) < n := by omega
      obtain ⟨b, o, rfl, hc⟩ := HI.out.some (by intro e; have := HL.out; rw [e] at this; simp at this; omega)
      have hkl : k < l.length := by rw [HL.out]; exact hlt
      have ha := (hc k hkl).below HB.out (hc k hkl).lt
      have hoo := HO.out _ (getD_mem hkl)
      have HT : Hid (text (l.take (k + 1)) = if isS (l.getD k none0) then text (l.take k) ++ [letter (l.getD k none0)] else text (l.take k)) := take_text hkl
      have htl : (text (l.take k)).length ≤ 1048576 := by
        have h1 := text_len_le (l.take k)
        rw [List.length_take] at h1
        omega
      obtain ⟨x, hx⟩ : ∃ x, x = l.getD k none0 := ⟨_, rfl⟩
      rw [← hx] at ha hoo HT
      obtain ⟨sx, nx, bx⟩ := x
      obtain ⟨a1, a2, a3⟩ := ha
      clear hc hx
      simp only at a1 a2 a3 hoo
      have C := isSeen_any sx nx bx (wr.alloc (.cells #[.string sx, .int .i64 nx, .bool bx] 28))
      obtain ⟨tx, htx⟩ : ∃ tx, tx = text (l.take k) := ⟨_, rfl⟩
      rw [← htx] at HW HT htl
      cases hse : isS (sx, nx, bx)
      · rw [hse] at C HT
        have HW2 : Hid (wr.ownsRow w.heap.size 5 1 u3 (text (l.take (k + 1))).length (bc (text (l.take (k + 1))))) := by
          unfold Hid; rw [HT.out]; exact HW.out
        clear hse htx hoo
        go_wp2_with fail
        refine C.mono ?_
        rintro e w2 ⟨rfl, hb2⟩
        have HB2 : Hid (Below w.heap.size w w2) := bel_new HB.out hb2
        have HW3 : Hid (w2.ownsRow w.heap.size 5 1 u3 (text (l.take (k + 1))).length (bc (text (l.take (k + 1))))) := own_below (HW2.out.alloc _) hb2
        clear hb2 C a1 a2 a3
        go_wp2_with fail
        go_roundw
        case rel => exact ⟨k + 1, by omega, by go_num, HW3, HB2⟩
        case measure => simp [intOf]; omega
      · rw [hse] at C HT
        have hnx : isL nx = true := by
          rcases hoo with e | e
          · unfold isS at hse; rw [e] at hse; simp at hse
          · exact e
        have hnb := isL_ne hnx
        have HLT : Hid (((letter (sx, nx, bx)).toNat : Int) = nx) := letter_nat (x := (sx, nx, bx)) hnx
        clear hse htx hoo hnx
        obtain ⟨hnb1, hnb2, hnb3⟩ := hnb
        go_wp2_with fail
        refine C.mono ?_
        rintro e w2 ⟨rfl, hb2⟩
        have HB2 : Hid (Below w.heap.size w w2) := bel_new HB.out hb2
        have d2 := (new_cell (x := (sx, nx, bx)) hb2).2.1
        simp only at d2
        have HW3 : Hid (w2.ownsRow w.heap.size 5 1 u3 tx.length (bc tx)) := own_below (HW.out.alloc _) hb2
        clear hb2 C a1 a2 a3
        go_wp2_with (at_builtin; refine wpList_append_own_at _ rfl (.tmp 14) (.tmp 18) 86 rfl w.heap.size 5 i0 (.int .u8 0) 1 1 Try.underlying86 hi hz0 hz1 hz2 rfl (by decide) u3 _ _ rfl (HW3.out.alloc _) ⟨w2.heap.size, 0, none⟩ 1 1 [.int .u8 nx] rfl rfl (cell_one_new _ _ _) (by intro u hu; simp at hu; subst hu; rfl) (by unfold maxLen; omega) (by omega) (by have := HB2.out.size; simp; omega) ?_; intro v' w3 hown' hgrow _ hat; have HB3 : Hid (Below w.heap.size w w3) := (own_grow HW3.out (HB2.out.alloc HB2.out.size _) hgrow (by have := HB2.out.size; simp; omega)); have HW4 : Hid (w3.ownsRow w.heap.size 5 1 v' (text (l.take (k + 1))).length (bc (text (l.take (k + 1))))) := (by unfold Hid; rw [HT.out]; exact own_one HLT.out hown'); clear hown' hgrow hat)
        go_roundw
        case rel => exact ⟨k + 1, by omega, by go_num, HW4, HB3⟩
        case measure => simp [intOf]; omega
    · obtain rfl : k = n := by omega
      have hcv : (convert 86 9 u3).run Try.prog wr = .ok (.string ⟨(text l).toArray⟩) wr := by
        have := own_text HW.out
        rwa [List.take_of_length_le (by rw [HL.out]; exact Nat.le_refl _)] at this
      go_wp2_with fail
      go_ret
      exact ⟨rfl, HB.out⟩

end Le
end Go.Proofs.Ytaefoieoachdfaa
