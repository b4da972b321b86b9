/- When two dots, two marks are the same; what slices.Index, slices.Contains, the closure of Join and slices.IndexFunc with it answer; what clear does to a row of structs. -/
import Derived.Test.YtcmoajlcmeimiaaDoorNj
import Derived.Laws.IdiomCopy
namespace Go.Proofs.YtcmoajlcmeimiaaDoor
namespace Nk
set_option linter.unusedVariables false
open Go.ChangeShapes Go.WideShapes Go.ChangeAt Go.RowKit Cm Ka Kb Na Nb Nc Nd Nj
open La (bel bel_drew errV_zero errV_ne own_ge own_grow own_below)

theorem dot_same {n m a b : Int} : decide (((n, a) : Dt) = (m, b)) = (n == m && a == b) := by
  rw [Bool.eq_iff_iff]; simp
theorem mark_same {s t : ByteArray} {n m a b : Int} : decide (((s, (n, a)) : Mk) = (t, (m, b))) = (s.toList == t.toList && (n == m && a == b)) := by
  rw [Bool.eq_iff_iff]
  simp only [decide_eq_true_eq, Bool.and_eq_true, beq_iff_eq]
  constructor
  · intro h; injection h with h1 h2; injection h2 with h2 h3; exact ⟨by rw [h1], h2, h3⟩
  · rintro ⟨h1, rfl, rfl⟩; rw [Bm.bytes_inj h1]
theorem eql_dot (n m a b : Int) (w : World) : (binOp .eql 24 (.agg #[.int .i64 n, .int .i64 a]) (.agg #[.int .i64 m, .int .i64 b])).run Tryd.prog w = .ok (.bool (decide (((n, a) : Dt) = (m, b)))) w := by
  have u3 := Tryd.underlying3
  have a3 := Tryd.isAgg3
  have z3 := Tryd.sizeOf3
  have hS : Tryd.prog.underlying 24 = some (.struct (Tryd.prog.fieldsOf 24)) := by kernel_rfl
  have hp : Tryd.prog.stoodInHeld 24 = false := by kernel_rfl
  rw [run_eql_struct, show (10000 : Nat) = 9999 + 1 from rfl, run_equalIn_agg w 9999 24 _ _ hS hp]
  simp only [Program.fieldsOf, Tryd.underlying24]
  rw [dot_same]
  go_simp
  by_cases h2 : n = m <;> by_cases h3 : a = b <;> simp [h2, h3]

/- slices.Index of a dot: where it is, or below 0 -/
set_option maxHeartbeats 1000000 in
theorem index_any (q : Option Addr) (n c : Nat) (l : List Dt) (p1 p2 : Int) (w : World) (hl : l.length = n) (h : DotsIn w q l) (hn : n ≤ 1048576) :
    Calls Tryd.prog 70 #[.slice q n c, .agg #[.int .i64 p1, .int .i64 p2]] w fun e w' => (∃ z, e = .returned (.int .i64 z) ∧ (0 ≤ z ↔ (p1, p2) ∈ l)) ∧ Below w.heap.size w w' := by
  have HL : Hid (l.length = n) := hl
  have HI : Hid (DotsIn w q l) := h
  have HB0 : Hid (Below w.heap.size w (w.alloc (.cells #[.int .i64 p1, .int .i64 p2] 24))) := (Below.refl _ w).alloc (Nat.le_refl _) _
  have HX1 : Hid ((w.alloc (.cells #[.int .i64 p1, .int .i64 p2] 24)).cell? ⟨w.heap.size, 0, none⟩ = some (.int .i64 p1) ∧ (w.alloc (.cells #[.int .i64 p1, .int .i64 p2] 24)).cell? ⟨w.heap.size, 1, none⟩ = some (.int .i64 p2)) := new_cellD (x := (p1, p2)) (Below.refl _ _)
  clear hl h
  go_enter Tryd.func70, Tryd.ntmps70
  go_wp2
  go_loopw [8] (fun vi wr => ∃ (k : Nat), k ≤ n ∧ vi = .int .i64 k ∧ Hid (∀ j, j < k → l.getD j noneD ≠ (p1, p2)) ∧ Hid (Below w.heap.size w wr) ∧ Hid (wr.cell? ⟨w.heap.size, 0, none⟩ = some (.int .i64 p1) ∧ wr.cell? ⟨w.heap.size, 1, none⟩ = some (.int .i64 p2))) (fun vi _ => n - (intOf vi).toNat)
  case atStart => exact ⟨0, by omega, rfl, fun j hj => absurd hj (by omega), HB0, HX1⟩
  case round =>
    obtain ⟨k, hk, rfl, H1, HB, HX0⟩ := hrel
    by_cases hlt : k < n
    · have hltz : (k : Int) < n := by omega
      obtain ⟨b, o, rfl, hc⟩ := HI.out.some (by intro e; have := HL.out; rw [e] at this; simp at this; omega)
      have hkl : k < l.length := by rw [HL.out]; exact hlt
      have ha := (hc k hkl).below HB.out (hc k hkl).lt
      obtain ⟨x, hx⟩ : ∃ x, x = l.getD k noneD := ⟨_, rfl⟩
      rw [← hx] at ha
      have HX : Hid (x = l.getD k noneD) := hx
      obtain ⟨x1, x2⟩ := x
      obtain ⟨a1, a2⟩ := ha
      simp only at a1 a2
      obtain ⟨d0, d1⟩ := HX0.out
      have hq : ∀ w, (binOp .eql 24 (.agg #[.int .i64 p1, .int .i64 p2]) (.agg #[.int .i64 x1, .int .i64 x2])).run Tryd.prog w = .ok (.bool (decide (((p1, p2) : Dt) = (x1, x2)))) w := fun w => eql_dot p1 x1 p2 x2 w
      have hg : Tryd.prog.eqGuardType Tryd.prog.depth 24 = false := by kernel_rfl
      clear hc hx
      by_cases hxy : ((p1, p2) : Dt) = (x1, x2)
      · rw [decide_eq_true hxy] at hq
        have HM : Hid ((0 : Int) ≤ (k : Int) ↔ (p1, p2) ∈ l) := by
          refine ⟨fun _ => ?_, fun _ => by omega⟩
          rw [hxy, HX.out]; exact getD_mem hkl
        clear hxy
        go_wp2
        go_quiet (fail)
        go_wp2
        go_ret
        exact ⟨⟨_, rfl, HM.out⟩, bel_drew HB.out _⟩
      · rw [decide_eq_false hxy] at hq
        have H3 : Hid (∀ j, j < k + 1 → l.getD j noneD ≠ (p1, p2)) := by
          intro j hj
          rcases Nat.lt_succ_iff_lt_or_eq.1 hj with h | rfl
          · exact H1.out j h
          · rw [← HX.out]; exact fun e => hxy e.symm
        clear hxy
        go_wp2
        go_quiet (fail)
        go_wp2
        go_roundw
        case rel => exact ⟨k + 1, by omega, by go_num, H3, bel_drew HB.out _, HX0.out⟩
        case measure => simp [intOf]; omega
    · obtain rfl : k = n := by omega
      have HM : Hid ((0 : Int) ≤ (-1 : Int) ↔ (p1, p2) ∈ l) := by
        refine ⟨fun h => by omega, fun h => ?_⟩
        obtain ⟨j, hj, e⟩ := List.mem_iff_getElem.1 h
        have := H1.out j (by rw [← HL.out]; exact hj)
        rw [List.getD_eq_getElem?_getD, List.getElem?_eq_getElem hj] at this
        exact absurd e this
      go_wp2
      go_ret
      exact ⟨⟨_, rfl, HM.out⟩, HB.out⟩

theorem contains_any (v : Value) (l : List Dt) (p1 p2 : Int) (w : World) (h : DtsAt w v l) (hn : l.length ≤ 1048576) :
    Calls Tryd.prog 48 #[v, .agg #[.int .i64 p1, .int .i64 p2]] w fun e w' => e = .returned (.bool (decide ((p1, p2) ∈ l))) ∧ Below w.heap.size w w' := by
  have hb1 : Below w.heap.size w (w.alloc (.cells #[.int .i64 p1, .int .i64 p2] 24)) := (Below.refl _ w).alloc (Nat.le_refl _) _
  obtain ⟨q, c, rfl, hd, _⟩ := h
  have C := index_any q l.length c l p1 p2 _ rfl (hd.below hb1) hn
  obtain ⟨n, hnn⟩ : ∃ n, n = l.length := ⟨_, rfl⟩
  rw [← hnn] at C hn
  rw [← hnn]
  have HB : Hid (Below w.heap.size w (w.alloc (.cells #[.int .i64 p1, .int .i64 p2] 24))) := hb1
  clear hd hb1 hnn
  go_enter Tryd.func48, Tryd.ntmps48
  go_wp2_with fail
  refine C.mono ?_
  rintro e w2 ⟨⟨z, rfl, hz⟩, hb2⟩
  have HB2 : Hid (Below w.heap.size w w2) := bel HB.out hb2
  by_cases hm : (p1, p2) ∈ l
  · have hz0 : (0 : Int) ≤ z := hz.2 hm
    have HD : Hid (decide ((p1, p2) ∈ l) = true) := decide_eq_true hm
    clear hb2 C hz hm
    go_wp2_with fail
    go_ret
    exact ⟨by rw [HD.out]; rfl, HB2.out⟩
  · have hz0 : ¬ (0 : Int) ≤ z := fun h => hm (hz.1 h)
    have HD : Hid (decide ((p1, p2) ∈ l) = false) := decide_eq_false hm
    clear hb2 C hz hm
    go_wp2_with fail
    go_ret
    exact ⟨ret_bool (by rw [HD.out]; exact decide_eq_false (by omega)), HB2.out⟩

/- is a mark one that was seen at a place? -/
def gone (p : ByteArray) (s : List Dt) (x : Mk) : Bool := decide (x.1 = p) && decide (x.2 ∈ s)
theorem closure_any (s : ByteArray) (a b : Int) (A B : Nat) (p : ByteArray) (v : Value) (l : List Dt) (w : World) (hA : w.cell? ⟨A, 0, none⟩ = some (.string p)) (hB : w.cell? ⟨B, 0, none⟩ = some v) (h : DtsAt w v l) (hn : l.length ≤ 1048576) :
    Calls Tryd.prog 47 #[.agg #[.string s, .int .i64 a, .int .i64 b], .pointer (some ⟨A, 0, none⟩), .pointer (some ⟨B, 0, none⟩)] w fun e w' => e = .returned (.bool (gone p l (s, (a, b)))) ∧ Below w.heap.size w w' := by
  have hb1 : Below w.heap.size w (w.alloc (.cells #[.string s, .int .i64 a, .int .i64 b] 26)) := (Below.refl _ w).alloc (Nat.le_refl _) _
  have hA2 := keep_cell hb1 hA
  have hB2 := keep_cell hb1 hB
  have HB : Hid (Below w.heap.size w (w.alloc (.cells #[.string s, .int .i64 a, .int .i64 b] 26))) := hb1
  have C := contains_any v l a b _ (h.below hb1) hn
  by_cases hsp : s = p
  · subst hsp
    have HG : Hid (gone s l (s, (a, b)) = decide ((a, b) ∈ l)) := by unfold Hid gone; simp
    rw [HG.out]
    obtain ⟨t, ht⟩ : ∃ t, t = decide ((a, b) ∈ l) := ⟨_, rfl⟩
    rw [← ht] at C ⊢
    obtain ⟨q, c, rfl, _⟩ := h
    clear HG ht hb1 hA hB hn
    go_enter Tryd.func47, Tryd.ntmps47
    go_wp2_with fail
    refine C.mono ?_
    rintro e w2 ⟨rfl, hb2⟩
    have HB2 : Hid (Below w.heap.size w w2) := bel HB.out hb2
    clear hb2 C
    go_wp2_with fail
    go_ret
    exact ⟨rfl, HB2.out⟩
  · have HG : Hid (gone p l (s, (a, b)) = false) := by unfold Hid gone; simp [hsp]
    have hne : ¬ s.toList = p.toList := fun e => hsp (Bm.bytes_inj e)
    have hnb : (s.toList == p.toList) = false := by simpa using hne
    rw [HG.out]
    clear HG hb1 hA hB hn C hsp hne h
    go_enter Tryd.func47, Tryd.ntmps47
    go_wp2_with fail
    go_ret
    exact ⟨rfl, HB.out⟩

end Nk
end Go.Proofs.YtcmoajlcmeimiaaDoor
