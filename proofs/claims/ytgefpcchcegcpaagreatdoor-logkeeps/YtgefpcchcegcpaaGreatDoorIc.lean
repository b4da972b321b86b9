/- What a doc asks: whether a text is in a row, whether a dot is known. -/
import Derived.Test.YtgefpcchcegcpaaGreatDoorIb
import Derived.Test.YtgefpcchcegcpaaGreatDoorJ8
import Derived.Deep.RegionHeld3
import Derived.Deep.RegionWith
import Derived.RegionTactic
import Derived.BigRegion
namespace Go.Proofs.YtgefpcchcegcpaaGreatDoor
namespace Ic
set_option linter.unusedVariables false
open Go.ChangeShapes Go.WideShapes Go.ChangeAt Go.RowKit Cm Ka Kb Na Om Oa Oz Oc Og Oi Hm Ia Ib
open La (bel bel_drew errV_zero errV_ne own_ge own_grow own_below Lies)

def eT : ByteArray := ⟨#[]⟩
def isIn (l : List ByteArray) (p : ByteArray) : Bool := l.any fun x => decide (x = p)
theorem isIn_iff {l : List ByteArray} {p : ByteArray} : isIn l p = true ↔ p ∈ l := by unfold isIn; simp
def TxtsIn (w : World) (p : Option Addr) (l : List ByteArray) : Prop := l = [] ∨ ∃ b o, p = some ⟨b, o, none⟩ ∧ ∀ j, j < l.length → w.cell? ⟨b, o + j, none⟩ = some (.string (l.getD j eT))
theorem TxtsIn.some {w : World} {p : Option Addr} {l : List ByteArray} (h : TxtsIn w p l) (hl : l ≠ []) : ∃ b o, p = some ⟨b, o, none⟩ ∧ ∀ j, j < l.length → w.cell? ⟨b, o + j, none⟩ = some (.string (l.getD j eT)) := by
  rcases h with h | h
  · exact absurd h hl
  · exact h
theorem row_txts {w : World} {v : Value} {l : List ByteArray} (h : RowS w v l) : ∃ p c, v = .slice p l.length c ∧ TxtsIn w p l := by
  rcases h.2 with ⟨rfl, h0⟩ | ⟨g, cap, cur, rfl, _, h2, h3, h4, h5, h6⟩
  · have : l = [] := List.eq_nil_of_length_eq_zero h0
    subst this
    exact ⟨none, 0, rfl, Or.inl rfl⟩
  · refine ⟨some ⟨g, 0, none⟩, cap, rfl, Or.inr ⟨g, 0, rfl, fun j hj => ?_⟩⟩
    have e : (l.map Value.string)[j]? = some (.string (l.getD j eT)) := by
      rw [List.getElem?_map, List.getD_eq_getElem?_getD, List.getElem?_eq_getElem hj]; rfl
    rw [← h6, List.getElem?_take_of_lt (by omega)] at e
    rw [Nat.zero_add]
    simp only [World.cell?, h2]
    simpa using e
set_option maxHeartbeats 1000000 in
theorem index_any (q : Option Addr) (n c : Nat) (l : List ByteArray) (p : ByteArray) (w : World) (hl : l.length = n) (h : TxtsIn w q l) (hn : n ≤ 1048576) :
    Calls Tryz.prog 85 #[.slice q n c, .string p] w fun e w' => (∃ z, e = .returned (.int .i64 z) ∧ (0 ≤ z ↔ p ∈ l)) ∧ w' = w := by
  have HL : Hid (l.length = n) := hl
  have HI : Hid (TxtsIn w q l) := h
  clear hl h
  go_enter Tryz.func85, Tryz.ntmps85
  go_wp2
  go_loop [5, 8] (fun _ v => ∃ k : Nat, k ≤ n ∧ v = .int .i64 k ∧ Hid (∀ j, j < k → l.getD j eT ≠ p)) (fun _ v => n - (intOf v).toNat)
  case atStart => exact ⟨0, by omega, rfl, fun j hj => absurd hj (by omega)⟩
  case round =>
    obtain ⟨k, hk, rfl, H1⟩ := hrel
    by_cases hlt : k < n
    · have hltz : (k : Int) < n := by omega
      obtain ⟨b, o, rfl, hc⟩ := HI.out.some (by intro e; have := HL.out; rw [e] at this; simp at this; omega)
      have hkl : k < l.length := by rw [HL.out]; exact hlt
      have hcell := hc k hkl
      obtain ⟨x, hx⟩ : ∃ x, x = l.getD k eT := ⟨_, rfl⟩
      rw [← hx] at hcell
      have HX : Hid (x = l.getD k eT) := hx
      have HKL : Hid (k < l.length) := hkl
      clear hc hx hkl
      by_cases hxy : x = p
      · have hb : (p.toList == x.toList) = true := by rw [hxy]; simp
        have HM : Hid (p ∈ l) := by
          unfold Hid; rw [← hxy, HX.out, List.getD_eq_getElem?_getD, List.getElem?_eq_getElem HKL.out]; exact List.getElem_mem HKL.out
        clear hxy
        go_wp2
        go_ret
        exact ⟨⟨k, rfl, fun _ => HM.out, fun _ => by omega⟩, rfl⟩
      · have hb : (p.toList == x.toList) = false := by
          cases h9 : (p.toList == x.toList)
          · rfl
          · exact absurd (mk_eq (by simpa using h9)).symm hxy
        have H3 : Hid (∀ j, j < k + 1 → l.getD j eT ≠ p) := by
          intro j hj
          rcases Nat.lt_succ_iff_lt_or_eq.1 hj with h | rfl
          · exact H1.out j h
          · rw [← HX.out]; exact hxy
        clear hxy
        go_wp2
        go_round
        case rel => exact ⟨k + 1, by omega, by go_num, H3⟩
        case measure => simp [intOf]; omega
    · obtain rfl : k = n := by omega
      have hltz : ¬ (k : Int) < k := by omega
      have HM : Hid (¬ p ∈ l) := by
        intro h
        obtain ⟨j, hj, e⟩ := List.mem_iff_getElem.1 h
        have := H1.out j (by rw [← HL.out]; exact hj)
        rw [List.getD_eq_getElem?_getD, List.getElem?_eq_getElem hj] at this
        exact absurd e this
      go_wp2
      go_ret
      exact ⟨⟨-1, rfl, fun h => absurd h (by decide), fun h => absurd h HM.out⟩, rfl⟩
theorem contains_any (v : Value) (l : List ByteArray) (p : ByteArray) (w : World) (h : RowS w v l) (hn : l.length ≤ 1048576) :
    Calls Tryz.prog 63 #[v, .string p] w fun e w' => e = .returned (.bool (isIn l p)) ∧ w' = w := by
  obtain ⟨q, c, rfl, ht⟩ := row_txts h
  have C := index_any q l.length c l p w rfl ht hn
  obtain ⟨n, hnn⟩ : ∃ n, n = l.length := ⟨_, rfl⟩
  rw [← hnn] at C
  rw [← hnn]
  clear ht hnn h hn
  go_enter Tryz.func63, Tryz.ntmps63
  go_wp2_with fail
  refine C.mono ?_
  rintro e w2 ⟨⟨z, rfl, hz⟩, hw⟩
  have hw2 := hw.symm; subst hw2; clear hw
  have HZ : Hid (0 ≤ z ↔ p ∈ l) := hz
  clear hz C
  by_cases h0 : 0 ≤ z
  · have HM : Hid (isIn l p = true) := isIn_iff.2 (HZ.out.1 h0)
    go_wp2_with fail
    go_ret
    exact ⟨by rw [HM.out]; rfl, rfl⟩
  · have HM : Hid (isIn l p = false) := by
      unfold Hid
      cases h9 : isIn l p
      · rfl
      · exact absurd (HZ.out.2 (isIn_iff.1 h9)) h0
    have H0 : Hid (decide (0 ≤ z) = false) := decide_eq_false h0
    go_wp2_with fail
    go_ret
    refine ⟨?_, rfl⟩
    show Ending.returned (.bool (decide (0 ≤ z))) = _
    rw [H0.out, HM.out]

theorem blk_cell {w : World} {D : Nat} {cs : Array Value} {t : TypeId} (h : w.heap[D]? = some (.cells cs t)) {i : Nat} {u : Value} (hu : cs[i]? = some u) : w.cell? ⟨D, i, none⟩ = some u := by
  simp only [World.cell?, h]; simpa using hu
theorem blk_free {w : World} {D : Nat} {cs : Array Value} {t : TypeId} (h : w.heap[D]? = some (.cells cs t)) {i : Nat} : w.frozen? ⟨D, i, none⟩ = false := by
  simp [World.frozen?, h]

set_option maxHeartbeats 1000000 in
theorem knows_any (m : Mem) (S : Dq) (G : Nat → Prop) (a b : Int) (w : World) (h : DocMem w m S G) :
    Calls Tryz.prog 58 #[.pointer (some ⟨m.D, 0, none⟩), .agg #[.int .i64 a, .int .i64 b]] w fun e w' => e = .returned (.bool (Dm.hasB S.known a b)) ∧ Below w.heap.size w w' := by
  have d2 := blk_cell h.blk (i := 2) (u := m.vk) rfl
  obtain ⟨q, c, hv, hi⟩ := h.known
  rw [hv] at d2
  have HB1 : Hid (Below w.heap.size w (w.alloc (.cells #[.int .i64 a, .int .i64 b] 31))) := (Below.refl _ w).alloc (Nat.le_refl _) _
  have CS : Hid (∀ W, Below w.heap.size w W → Calls Tryz.prog 78 #[.slice q S.known.length c, .agg #[.int .i64 a, .int .i64 b]] W fun e w' => e = .returned (.tuple #[.bool (Dm.hasB S.known a b), Za.errV (Dm.withE S.known a b)]) ∧ Below W.heap.size W w') :=
    fun W hb => Dd.has_any q _ c S.known a b W rfl (hi.below hb)
  obtain ⟨n, hn⟩ : ∃ n, n = S.known.length := ⟨_, rfl⟩
  obtain ⟨ee, hee⟩ : ∃ ee, ee = Za.errV (Dm.withE S.known a b) := ⟨_, rfl⟩
  obtain ⟨D, hD⟩ : ∃ D, D = m.D := ⟨_, rfl⟩
  rw [← hn, ← hee] at CS
  rw [← hn, ← hD] at d2
  rw [← hD]
  have e2 := keep_cell HB1.out d2
  obtain ⟨f0, f1⟩ := Nj.new_cellD (x := (a, b)) (Below.refl _ (w.alloc (.cells #[.int .i64 a, .int .i64 b] 31)))
  simp only at f0 f1
  clear hv hi h hn hee hD
  go_enter Tryz.func58, Tryz.ntmps58
  go_wp2_with fail
  go_region_held3 (fun W => W.cell? ⟨D, 2, none⟩ = some (.slice q n c) ∧ W.cell? ⟨w.heap.size, 0, none⟩ = some (.int .i64 a) ∧ W.cell? ⟨w.heap.size, 1, none⟩ = some (.int .i64 b)) (first | (go_keep; done) | (refine ⟨keep_cell hb7 ?_, keep_cell hb7 ?_, keep_cell hb7 ?_⟩ <;> (go_split_ands; assumption))) (first
    | (go_at_call 78; refine (CS.out _ HB1.out.drew).mono ?_; rintro e w7 ⟨rfl, hb7⟩; have HB7 : Hid (Below w.heap.size w w7) := bel HB1.out.drew hb7))
  all_goals
    go_wp2_with fail
    go_ret
    exact ⟨rfl, HB7.out⟩

end Ic
end Go.Proofs.YtgefpcchcegcpaaGreatDoor
