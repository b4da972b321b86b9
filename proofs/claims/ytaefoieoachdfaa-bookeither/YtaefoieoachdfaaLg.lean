/- What book.At answers, and book.leafAt. -/
import Derived.Test.YtaefoieoachdfaaLf
namespace Go.Proofs.Ytaefoieoachdfaa
namespace Lg
set_option linter.unusedVariables false
open Go.ChangeShapes Go.WideShapes Go.ChangeAt Go.RowKit Bm Ka Kb La Lb Lc Ld Le Lf

theorem box_cell {w w2 : World} {t : TypeId} {v : Value} (hb : Below (w.alloc (.cells #[v] t)).heap.size (w.alloc (.cells #[v] t)) w2) : w2.cell? ⟨w.heap.size, 0, none⟩ = some v := by
  have hlt : w.heap.size < (w.alloc (.cells #[v] t)).heap.size := by simp
  have h2 : (w.alloc (.cells #[v] t)).heap[w.heap.size]? = some (.cells #[v] t) := heap_alloc_new w _
  refine (hb.cell (p := ⟨w.heap.size, 0, none⟩) hlt).trans ?_
  simp only [World.cell?, h2]; rfl

theorem new_one (w : World) (v : Value) (t : TypeId) : (w.alloc (.cells #[v] t)).cell? ⟨w.heap.size, 0, none⟩ = some v := by
  have h2 : (w.alloc (.cells #[v] t)).heap[w.heap.size]? = some (.cells #[v] t) := heap_alloc_new w _
  simp only [World.cell?, h2]; rfl
theorem new_frozen (w : World) (v : Value) (t : TypeId) : (w.alloc (.cells #[v] t)).frozen? ⟨w.heap.size, 0, none⟩ = false := by
  have h2 : (w.alloc (.cells #[v] t)).heap[w.heap.size]? = some (.cells #[v] t) := heap_alloc_new w _
  simp only [World.frozen?, h2]; rfl
theorem new_cold {w w2 : World} {c : Array Value} {t : TypeId} (hb : Below (w.alloc (.cells c t)).heap.size (w.alloc (.cells c t)) w2) (j : Nat) : w2.frozen? ⟨w.heap.size, j, none⟩ = false := by
  have hlt : w.heap.size < (w.alloc (.cells c t)).heap.size := by simp
  have h2 : (w.alloc (.cells c t)).heap[w.heap.size]? = some (.cells c t) := heap_alloc_new w _
  rw [hb.frozen (p := ⟨w.heap.size, j, none⟩) hlt]
  simp only [World.frozen?, h2]; simp
theorem old_one (w : World) (o : Obj) (a : Addr) (v : Value) (h : w.cell? a = some v) : (w.alloc o).cell? a = some v := by
  rw [World.cell?_alloc_old _ _ _ (Nat.ne_of_lt (World.block_lt_of_cell? _ _ h))]; exact h

set_option maxHeartbeats 1000000 in
theorem at_any (q : Option Addr) (n c : Nat) (l : List Leaf) (f : Int) (w : World) (hl : l.length = n) (h : LeafsIn w q l) (hs : ∀ x ∈ l, x.1.size ≤ maxLen) (hn : n ≤ maxLen) :
    Calls Try.prog 11 #[.slice q n c, .int .i64 f] w fun e w' => e = .returned (.tuple #[.int .i64 (atR l f), errV (atE l f)]) ∧ Below w.heap.size w w' := by
  have hb1 : Below w.heap.size w (w.alloc (.cells #[.int .i64 f] 3)) := (Below.refl _ w).alloc (Nat.le_refl _) _
  have C := check_book q n c l _ hl (h.below hb1) hs hn
  have HB1 : Hid (Below w.heap.size w (w.alloc (.cells #[.int .i64 f] 3))) := hb1
  clear hb1
  by_cases h0 : bookE l = 0
  · rw [h0, errV_zero] at C
    by_cases hf : f < 0
    · have HR : Hid (atE l f = 1) := by unfold Hid atE; rw [if_neg (by simpa using h0), if_pos hf]
      have HT : Hid (atR l f = 0) := by unfold Hid atR; rw [HR.out, if_neg (by decide)]
      clear hl h hs hn h0
      go_enter Try.func11, Try.ntmps11
      go_wp2_with fail
      refine C.mono ?_
      rintro e w2 ⟨rfl, hb2⟩
      have d1 := box_cell hb2
      have HB2 : Hid (Below w.heap.size w w2) := bel HB1.out hb2
      clear hb2 C
      go_wp2_with fail
      go_ret2
      exact ⟨by rw [HR.out, HT.out]; rfl, HB2.out⟩
    · have hk := book_ok h0
      have HIX : Hid (∀ w3 A O, Below w.heap.size w w3 → w3.cell? ⟨A, 0, none⟩ = some (.int .i64 0) → w3.cell? ⟨O, 0, none⟩ = some (.int .i64 f) → w3.frozen? ⟨A, 0, none⟩ = false → A ≠ O → w.heap.size ≤ A → Calls Try.prog 28 #[.slice q n c, .func (.func 29) #[] #[.pointer (some ⟨A, 0, none⟩), .pointer (some ⟨O, 0, none⟩)]] w3 fun e w' => e = .returned (.int .i64 (nth l 0 f)) ∧ Below w.heap.size w w') :=
        fun w3 A O hb3 e1 e2 e3 e4 e5 => index_any q n c A O l f w w3 hl h hb3 e1 e2 e3 e4 e5 (by omega) (by omega)
      by_cases hr : nth l 0 f < 0
      · have HR : Hid (atE l f = 1) := by unfold Hid atE; rw [if_neg (by simpa using h0), if_neg hf, if_pos hr]
        have HT : Hid (atR l f = 0) := by unfold Hid atR; rw [HR.out, if_neg (by decide)]
        obtain ⟨r, hrr⟩ : ∃ r, r = nth l 0 f := ⟨_, rfl⟩
        rw [← hrr] at hr HIX
        clear hl h hs hn h0 hrr hk
        go_enter Try.func11, Try.ntmps11
        go_wp2_with fail
        refine C.mono ?_
        rintro e w2 ⟨rfl, hb2⟩
        have d1 := box_cell hb2
        have HB2 : Hid (Below w.heap.size w w2) := bel HB1.out hb2
        have HLT : Hid (w.heap.size < w2.heap.size) := by have := hb2.size; simp at this; unfold Hid; omega
        clear hb2 C
        go_wp2_with fail
        refine (HIX.out _ w2.heap.size w.heap.size ?_ ?_ ?_ ?_ ?_ ?_).mono ?_
        · exact HB2.out.alloc HB2.out.size _
        · exact new_one _ _ _
        · exact old_one _ _ _ _ d1
        · exact new_frozen _ _ _
        · have := HLT.out; omega
        · have := HLT.out; omega
        rintro e w4 ⟨rfl, hb4⟩
        have HB4 : Hid (Below w.heap.size w w4) := hb4
        clear hb4 d1
        go_wp2_with fail
        go_ret2
        exact ⟨by rw [HR.out, HT.out]; rfl, HB4.out⟩
      · have HR : Hid (atE l f = 0) := by unfold Hid atE; rw [if_neg (by simpa using h0), if_neg hf, if_neg hr]
        have HT : Hid (atR l f = nth l 0 f) := by unfold Hid atR; rw [HR.out, if_pos rfl]
        obtain ⟨r, hrr⟩ : ∃ r, r = nth l 0 f := ⟨_, rfl⟩
        rw [← hrr] at hr HIX HT
        clear hl h hs hn h0 hrr hk
        go_enter Try.func11, Try.ntmps11
        go_wp2_with fail
        refine C.mono ?_
        rintro e w2 ⟨rfl, hb2⟩
        have d1 := box_cell hb2
        have HB2 : Hid (Below w.heap.size w w2) := bel HB1.out hb2
        have HLT : Hid (w.heap.size < w2.heap.size) := by have := hb2.size; simp at this; unfold Hid; omega
        clear hb2 C
        go_wp2_with fail
        refine (HIX.out _ w2.heap.size w.heap.size ?_ ?_ ?_ ?_ ?_ ?_).mono ?_
        · exact HB2.out.alloc HB2.out.size _
        · exact new_one _ _ _
        · exact old_one _ _ _ _ d1
        · exact new_frozen _ _ _
        · have := HLT.out; omega
        · have := HLT.out; omega
        rintro e w4 ⟨rfl, hb4⟩
        have HB4 : Hid (Below w.heap.size w w4) := hb4
        clear hb4 d1
        go_wp2_with fail
        go_ret2
        exact ⟨by rw [HR.out, HT.out]; rfl, HB4.out⟩
  · obtain ⟨k, hk⟩ : ∃ k, k = bookE l := ⟨_, rfl⟩
    have HA : Hid (atE l f = bookE l) := by unfold Hid atE; rw [if_pos h0]
    have HT : Hid (atR l f = 0) := by unfold Hid atR; rw [HA.out, if_neg h0]
    have HE : Hid (errV (atE l f) = .iface 59 (.int .i64 k)) := by unfold Hid; rw [HA.out, errV_ne h0, hk]
    rw [errV_ne h0, ← hk] at C
    rw [HE.out, HT.out]
    clear hl h hs hn h0 hk HT HE HA
    go_enter Try.func11, Try.ntmps11
    go_wp2_with fail
    refine C.mono ?_
    rintro e w2 ⟨rfl, hb2⟩
    have HB2 : Hid (Below w.heap.size w w2) := bel HB1.out hb2
    clear hb2 C
    go_wp2_with fail
    go_ret2
    exact ⟨rfl, HB2.out⟩

set_option maxHeartbeats 1000000 in
theorem leafAt_any (q : Option Addr) (n c : Nat) (l : List Leaf) (p : ByteArray) (w : World) (hl : l.length = n) (h : LeafsIn w q l) (hr : Rise l) (hn : n ≤ 1048576) :
    Calls Try.prog 21 #[.slice q n c, .string p] w fun e w' => e = .returned (aggL (leafAt l p)) ∧ Below w.heap.size w w' := by
  have hb1 : ∀ o, Below w.heap.size w (w.alloc o) := fun o => (Below.refl _ w).alloc (Nat.le_refl _) _
  have C := fun o => find_any q n c l p (w.alloc o) hl (h.below (hb1 o)) hr hn
  have HB1 : Hid (∀ o, Below w.heap.size w (w.alloc o)) := hb1
  clear hb1
  cases hh : has l p.toList
  · rw [hh] at C
    have HX : Hid (leafAt l p = (p, 0, false)) := by unfold Hid leafAt; rw [hh]; rfl
    rw [HX.out]
    obtain ⟨i, hi⟩ : ∃ i, i = ahd l p.toList := ⟨_, rfl⟩
    rw [← hi] at C
    clear hl h hr hn hh HX hi
    go_enter Try.func21, Try.ntmps21
    go_wp2_with fail
    refine (C _).mono ?_
    rintro e w2 ⟨rfl, hb2⟩
    have HB2 : Hid (Below w.heap.size w w2) := bel (HB1.out _) hb2
    have d := new_cell (x := (⟨#[]⟩, 0, false)) hb2
    simp only at d
    obtain ⟨d0, d1, d2⟩ := d
    have f0 := new_cold hb2 0
    have f1 := new_cold hb2 1
    have f2 := new_cold hb2 2
    clear C hb2
    go_wp2_with fail
    refine bodyPost_ret (v := aggL (p, 0, false)) ?_ rfl ⟨rfl, ?_⟩
    · simp [results, Try.results21, aggL, go_sem, asAddr, Result.andThen, d0, d1, d2]
    · exact ((HB2.out.setCell (p := ⟨w.heap.size, 0, none⟩) (Nat.le_refl _) _).setCell (p := ⟨w.heap.size, 1, none⟩) (Nat.le_refl _) _).setCell (p := ⟨w.heap.size, 2, none⟩) (Nat.le_refl _) _
  · rw [hh] at C
    have hin : ahd l p.toList < l.length := by unfold has at hh; rw [Bool.and_eq_true, decide_eq_true_eq] at hh; exact hh.1
    have HX : Hid (leafAt l p = l.getD (ahd l p.toList) none0) := by unfold Hid leafAt; rw [hh]; rfl
    rw [HX.out]
    obtain ⟨i, hi⟩ : ∃ i, i = ahd l p.toList := ⟨_, rfl⟩
    rw [← hi] at C hin ⊢
    obtain ⟨b, o, rfl, hc⟩ := h.some (by rintro rfl; simp at hin)
    have hci := hc i hin
    obtain ⟨x, hx⟩ : ∃ x, x = l.getD i none0 := ⟨_, rfl⟩
    rw [← hx] at hci ⊢
    obtain ⟨sx, nx, bx⟩ := x
    have HCI : Hid (At w b o i (sx, nx, bx)) := hci
    have hinz : (i : Int) < n := by omega
    clear hl h hr hh HX hi hc hx hci hin
    go_enter Try.func21, Try.ntmps21
    go_wp2_with fail
    refine (C _).mono ?_
    rintro e w2 ⟨rfl, hb2⟩
    have HB2 : Hid (Below w.heap.size w w2) := bel (HB1.out _) hb2
    have d := new_cell (x := (⟨#[]⟩, 0, false)) hb2
    simp only at d
    obtain ⟨d0, d1, d2⟩ := d
    have f0 := new_cold hb2 0
    have f1 := new_cold hb2 1
    have f2 := new_cold hb2 2
    obtain ⟨a1, a2, a3⟩ := HCI.out.below HB2.out HCI.out.lt
    simp only at a1 a2 a3
    clear C hb2
    go_wp2_with fail
    refine bodyPost_ret (v := aggL (sx, nx, bx)) ?_ rfl ⟨rfl, ?_⟩
    · simp [results, Try.results21, aggL, go_sem, asAddr, Result.andThen, d0, d1, d2]
    · exact ((HB2.out.setCell (p := ⟨w.heap.size, 0, none⟩) (Nat.le_refl _) _).setCell (p := ⟨w.heap.size, 1, none⟩) (Nat.le_refl _) _).setCell (p := ⟨w.heap.size, 2, none⟩) (Nat.le_refl _) _

end Lg
end Go.Proofs.Ytaefoieoachdfaa
