/- What book.Check and book.checkWith answer, at every book. -/
import Derived.Test.YtaefoieoachdfaaLb
namespace Go.Proofs.Ytaefoieoachdfaa
namespace Lc
set_option linter.unusedVariables false
open Go.ChangeShapes Go.WideShapes Go.ChangeAt Go.RowKit Bm Ka Kb La Lb

theorem empty_list : ByteArray.empty.toList = [] := ByteArray.toList_mk []
theorem drop_at {l : List Leaf} {k : Nat} (hk : k < l.length) : l.drop k = l.getD k none0 :: l.drop (k + 1) := by
  rw [List.drop_eq_getElem_cons hk, List.getD_eq_getElem?_getD, List.getElem?_eq_getElem hk]; rfl
/- the cells of a leaf of the call's own -/
theorem new_cell {w w2 : World} {x : Leaf} {t : TypeId} (hb : Below (w.alloc (.cells #[.string x.1, .int .i64 x.2.1, .bool x.2.2] t)).heap.size (w.alloc (.cells #[.string x.1, .int .i64 x.2.1, .bool x.2.2] t)) w2) :
    w2.cell? ⟨w.heap.size, 0, none⟩ = some (.string x.1) ∧ w2.cell? ⟨w.heap.size, 1, none⟩ = some (.int .i64 x.2.1) ∧ w2.cell? ⟨w.heap.size, 2, none⟩ = some (.bool x.2.2) := by
  have hlt : w.heap.size < (w.alloc (.cells #[.string x.1, .int .i64 x.2.1, .bool x.2.2] t)).heap.size := by simp
  have h2 : (w.alloc (.cells #[.string x.1, .int .i64 x.2.1, .bool x.2.2] t)).heap[w.heap.size]? = some (.cells #[.string x.1, .int .i64 x.2.1, .bool x.2.2] t) := heap_alloc_new w _
  refine ⟨(hb.cell (p := ⟨w.heap.size, 0, none⟩) hlt).trans ?_, (hb.cell (p := ⟨w.heap.size, 1, none⟩) hlt).trans ?_, (hb.cell (p := ⟨w.heap.size, 2, none⟩) hlt).trans ?_⟩ <;> (simp only [World.cell?, h2]; rfl)
theorem bel_new {w wr w2 : World} {o : Obj} (h : Below w.heap.size w wr) (hb : Below (wr.alloc o).heap.size (wr.alloc o) w2) : Below w.heap.size w w2 := bel (h.alloc h.size o) hb

set_option maxHeartbeats 1000000 in
theorem check_book (p : Option Addr) (n c : Nat) (l : List Leaf) (w : World) (hl : l.length = n) (h : LeafsIn w p l) (hs : ∀ x ∈ l, x.1.size ≤ maxLen) (hn : n ≤ maxLen) :
    Calls Try.prog 26 #[.slice p n c] w fun e w' => e = .returned (errV (bookE l)) ∧ Below w.heap.size w w' := by
  unfold maxLen at hn
  by_cases h300 : 300 < n
  · have HE : Hid (bookE l = 4) := by unfold Hid bookE; rw [hl, if_pos h300]
    have hz : (300 : Int) < n := by omega
    clear hl h hs
    go_enter Try.func26, Try.ntmps26
    go_wp2
    go_ret
    exact ⟨by rw [HE.out]; rfl, Below.refl _ _⟩
  · have HE : Hid (bookE l = goes [] l) := by unfold Hid bookE; rw [hl, if_neg h300]
    have hz : ¬ (300 : Int) < n := by omega
    have HL : Hid (l.length = n) := hl
    have HI : Hid (LeafsIn w p l) := h
    have HS : Hid (∀ x ∈ l, x.1.size ≤ maxLen) := hs
    clear hl h hs
    go_enter Try.func26, Try.ntmps26
    go_wp2
    go_loopw [3, 5, 6, 13] (fun a _ _ i wr => ∃ (k : Nat) (s : ByteArray), k ≤ n ∧ i = .int .i64 k ∧ a = .string s ∧ Hid (goes s.toList (l.drop k) = goes [] l) ∧ Hid (Below w.heap.size w wr)) (fun _ _ _ i _ => n - (intOf i).toNat)
    case atStart => exact ⟨0, ByteArray.empty, by omega, rfl, rfl, by unfold Hid; rw [List.drop_zero, empty_list], Below.refl _ _⟩
    case round =>
      obtain ⟨k, s, hk, rfl, rfl, HG, HB⟩ := hrel
      by_cases hlt : k < n
      · have hltz : (k : Int) < n := by omega
        obtain ⟨b, o, rfl, hc⟩ := HI.out.some (by intro e; have := HL.out; rw [e] at this; simp at this; omega)
        have hkl : k < l.length := by rw [HL.out]; exact hlt
        have ha := (hc k hkl).below HB.out (hc k hkl).lt
        have hss := HS.out _ (getD_mem hkl)
        obtain ⟨x, hx⟩ : ∃ x, x = l.getD k none0 := ⟨_, rfl⟩
        rw [← hx] at ha hss
        have HX : Hid (x = l.getD k none0) := hx
        obtain ⟨sx, nx, bx⟩ := x
        obtain ⟨a1, a2, a3⟩ := ha
        clear hc hx
        simp only at a1 a2 a3 hss
        have HD : Hid (goes s.toList (l.drop k) = if leafE (sx, nx, bx) ≠ 0 then leafE (sx, nx, bx) else if Op.bytesLess s.toList sx.toList = false then 7 else goes sx.toList (l.drop (k + 1))) := by
          unfold Hid; rw [drop_at hkl, ← HX.out]; rfl
        have C := checkLeaf_any sx nx bx (wr.alloc (.cells #[.string sx, .int .i64 nx, .bool bx] 28)) hss
        by_cases h0 : leafE (sx, nx, bx) = 0
        · rw [h0, errV_zero] at C
          have HD2 : Hid (goes [] l = if Op.bytesLess s.toList sx.toList = false then 7 else goes sx.toList (l.drop (k + 1))) := by
            unfold Hid; rw [← HG.out, HD.out, if_neg (by simpa using h0)]
          clear HD h0 hss
          cases hr : Op.bytesLess s.toList sx.toList
          · rw [hr] at HD2
            have HQ : Hid (errV (bookE l) = .iface 59 (.int .i64 7)) := by
              unfold Hid; rw [HE.out, HD2.out, if_pos rfl]; rfl
            have HR : Hid (Op.bytesLess sx.toList s.toList = true ∨ sx.toList = s.toList) := by
              by_cases e : s.toList = sx.toList
              · exact Or.inr e.symm
              · exact Or.inl (less_total hr e)
            clear HD2 hr
            go_wp2_with fail
            refine C.mono ?_
            rintro e w2 ⟨rfl, hb2⟩
            have HB2 : Hid (Below w.heap.size w w2) := bel_new HB.out hb2
            have d1 := (new_cell (x := (sx, nx, bx)) hb2).1
            simp only at d1
            clear hb2 C a1 a2 a3
            go_wp2_with fail
            · go_ret
              exact ⟨by rw [HQ.out]; rfl, HB2.out⟩
            · rename_i hx
              exfalso
              rcases HR.out with e | e
              · rw [e] at hx; exact absurd hx.1 (by decide)
              · rw [e] at hx; simp at hx
          · rw [hr] at HD2
            have hr1 : Op.bytesLess sx.toList s.toList = false := less_asymm hr
            have hr2 : (sx.toList == s.toList) = false := by
              rw [beq_eq_false_iff_ne]; intro e; rw [e, less_irrefl] at hr; cases hr
            have HG2 : Hid (goes sx.toList (l.drop (k + 1)) = goes [] l) := by unfold Hid; rw [HD2.out, if_neg (by decide)]
            clear HD2 hr
            go_wp2_with fail
            refine C.mono ?_
            rintro e w2 ⟨rfl, hb2⟩
            have HB2 : Hid (Below w.heap.size w w2) := bel_new HB.out hb2
            have d1 := (new_cell (x := (sx, nx, bx)) hb2).1
            simp only at d1
            clear hb2 C a1 a2 a3
            go_wp2_with fail
            go_roundw
            case rel => exact ⟨k + 1, sx, by omega, by go_num, rfl, HG2, HB2⟩
            case measure => simp [intOf]; omega
        · obtain ⟨q, hq⟩ : ∃ q, q = leafE (sx, nx, bx) := ⟨_, rfl⟩
          have HQ : Hid (errV (bookE l) = .iface 59 (.int .i64 q)) := by
            unfold Hid; rw [HE.out, ← HG.out, HD.out, if_pos h0, hq, errV_ne h0]
          rw [errV_ne h0, ← hq] at C
          clear HD h0 hss hq
          go_wp2_with fail
          refine C.mono ?_
          rintro e w2 ⟨rfl, hb2⟩
          have HB2 : Hid (Below w.heap.size w w2) := bel_new HB.out hb2
          clear hb2 C
          go_wp2_with fail
          go_ret
          exact ⟨by rw [HQ.out]; rfl, HB2.out⟩
      · obtain rfl : k = n := by omega
        have HZ : Hid (goes [] l = 0) := by
          unfold Hid; rw [← HG.out, List.drop_of_length_le (by rw [HL.out]; exact Nat.le_refl _)]; rfl
        go_wp2_with fail
        go_ret
        exact ⟨by rw [HE.out, HZ.out]; rfl, HB.out⟩

theorem checkWith_any (p : Option Addr) (n c : Nat) (l : List Leaf) (s : ByteArray) (w : World) (hl : l.length = n) (h : LeafsIn w p l) (hs : ∀ x ∈ l, x.1.size ≤ maxLen) (hn : n ≤ maxLen) (hp : s.size ≤ maxLen) :
    Calls Try.prog 19 #[.slice p n c, .string s] w fun e w' => e = .returned (errV (withE l s)) ∧ Below w.heap.size w w' := by
  have C := check_book p n c l w hl h hs hn
  have C2 := fun w => check_any s w hp
  clear hl h hs hn hp
  by_cases h0 : bookE l = 0
  · rw [h0, errV_zero] at C
    have HE : Hid (withE l s = Pm.chk s.toList) := by unfold Hid withE; rw [if_neg (by simpa using h0)]
    clear h0
    go_enter Try.func19, Try.ntmps19
    go_wp2_with fail
    refine C.mono ?_
    rintro e w2 ⟨rfl, hb2⟩
    have HB2 : Hid (Below w.heap.size w w2) := hb2
    clear hb2 C
    go_wp2_with fail
    refine (C2 _).mono ?_
    rintro e w3 ⟨rfl, hw⟩
    have hw2 := hw.symm; subst hw2; clear hw C2
    go_wp2_with fail
    go_ret
    exact ⟨by rw [HE.out]; rfl, HB2.out⟩
  · obtain ⟨q, hq⟩ : ∃ q, q = bookE l := ⟨_, rfl⟩
    have HE : Hid (errV (withE l s) = .iface 59 (.int .i64 q)) := by unfold Hid withE; rw [if_pos h0, hq, errV_ne h0]
    rw [errV_ne h0, ← hq] at C
    clear h0 hq C2
    go_enter Try.func19, Try.ntmps19
    go_wp2_with fail
    refine C.mono ?_
    rintro e w2 ⟨rfl, hb2⟩
    have HB2 : Hid (Below w.heap.size w w2) := hb2
    clear hb2 C
    go_wp2_with fail
    go_ret
    exact ⟨by rw [HE.out]; rfl, HB2.out⟩

end Lc
end Go.Proofs.Ytaefoieoachdfaa
