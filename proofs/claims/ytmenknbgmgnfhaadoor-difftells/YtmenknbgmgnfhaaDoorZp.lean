/- Costs of any edits, here and in the document's answer; what the document's answer makes of a text by edits. -/
import Derived.Test.YtmenknbgmgnfhaaDoorZn
namespace Go.Proofs.YtmenknbgmgnfhaaDoor
namespace Zp
set_option linter.unusedVariables false
set_option linter.unusedSimpArgs false
open Go.ChangeShapes Go.WideShapes Go.ChangeAt Go.RowKit Ka Kb Zb Zc Zd Ze Zf Zg Zh Zi Zj Zm Zn

theorem wrap_in (n : Int) (h : -9223372036854775808 ≤ n ∧ n ≤ 9223372036854775807) : wrap64 n = n := by unfold wrap64; omega
/- a sum of ints, as Go adds them -/
def stp (acc : Int) (x : Fr) : Int := if 0 ≤ x.2.1 ∧ x.2.1 ≤ 200 then wrap64 (wrap64 (acc + x.2.1) + x.2.2.size) else wrap64 (acc + x.2.2.size)
def costW (l : List Fr) : Int := l.foldl stp 0
theorem costW_take {l : List Fr} {k : Nat} (h : k < l.length) : costW (l.take (k + 1)) = stp (costW (l.take k)) (l.getD k fz) := by
  rw [take_one h, costW, List.foldl_append]; rfl
theorem costW_from : ∀ (l : List Fr) (acc : Int), 0 ≤ acc → acc + costN l ≤ 1000000 → l.foldl stp acc = acc + costN l
  | [], acc, _, _ => by simp [costN]
  | x :: l, acc, h0, h1 => by
    have e : costN (x :: l) = cs x + costN l := by simp [costN]
    rw [e] at h1 ⊢
    have h2 : stp acc x = acc + cs x := by
      unfold stp cs
      unfold cs at h1
      by_cases h : 0 ≤ x.2.1 ∧ x.2.1 ≤ 200
      · rw [if_pos h] at h1 ⊢
        rw [if_pos h, wrap_in (acc + x.2.1) (by omega), wrap_in _ (by omega)]; omega
      · rw [if_neg h] at h1 ⊢
        rw [if_neg h, wrap_in _ (by omega)]; omega
    show l.foldl stp (stp acc x) = _
    rw [h2, costW_from l (acc + cs x) (by omega) (by omega)]; omega
theorem costW_small {l : List Fr} (h : costN l ≤ 1000000) : costW l = costN l := by
  have := costW_from l 0 (Int.le_refl _) (by omega)
  rw [costW, this]; omega
/- the second one's walk differs in that it makes no box -/
set_option maxHeartbeats 1000000 in
theorem rcost_any (R : Nat → Prop) (v : Value) (l : List Fr) (w : World) (h : FrsJ R w v l) (hn : l.length ≤ 140737488355328) (hz : ∀ x ∈ l, x.2.2.size ≤ 140737488355328) :
    Calls Tryd.prog 7 #[v] w fun e w' => e = .returned (.int .i64 (costW l)) ∧ Below w.heap.size w w' := by
  obtain ⟨p, c, rfl, hk, _⟩ := h
  obtain ⟨n, hl⟩ : ∃ n, l.length = n := ⟨_, rfl⟩
  rw [hl] at hn ⊢
  have HL : Hid (l.length = n) := hl
  have HZ : Hid (∀ x ∈ l, x.2.2.size ≤ 140737488355328) := hz
  have HK : Hid (FrsK R w p l) := hk
  clear hl hz hk
  go_enter Tryd.func7, Tryd.ntmps7
  go_wp2
  go_loopw [3, 4] (fun s i wr => ∃ k : Nat, k ≤ n ∧ i = .int .i64 k ∧ s = .int .i64 (costW (l.take k)) ∧ Hid (Below w.heap.size w wr)) (fun _ i _ => n - (intOf i).toNat)
  case atStart => exact ⟨0, by omega, rfl, rfl, Below.refl _ _⟩
  case round =>
    obtain ⟨k, hkn, rfl, rfl, HB⟩ := hrel
    by_cases hlt : k < n
    · have hltz : (k : Int) < n := by omega
      obtain ⟨b, o, rfl, _, hc⟩ := HK.out.some (by intro e; have := HL.out; rw [e] at this; simp at this; omega)
      obtain ⟨e1, e2, e3⟩ := hc k (by rw [HL.out]; exact hlt)
      have d2 := keep_cell HB.out e2
      have d3 := keep_cell HB.out e3
      have hsz := HZ.out _ (getD_mem (l := l) (k := k) (by rw [HL.out]; exact hlt))
      have HT : Hid (costW (l.take (k + 1)) = stp (costW (l.take k)) (l.getD k fz)) := costW_take (by rw [HL.out]; exact hlt)
      clear e1 e2 e3 hc
      obtain ⟨x, hx⟩ : ∃ x, l.getD k fz = x := ⟨_, rfl⟩
      rw [hx] at d2 d3 hsz HT
      obtain ⟨kk, tt, dd⟩ := x
      dsimp only at d2 d3 hsz
      clear hx
      generalize costW (l.take k) = C at HT ⊢
      by_cases h1 : 0 ≤ tt
      · by_cases h2 : tt ≤ 200
        · have HS : Hid (stp C (kk, tt, dd) = wrap64 (wrap64 (C + tt) + dd.size)) := by rw [Hid, stp, if_pos ⟨h1, h2⟩]
          go_wp2_with fail
          go_roundw
          case rel => exact ⟨k + 1, by omega, by go_num, by rw [HT.out, HS.out], HB⟩
          case measure => simp [intOf]; omega
        · have HS : Hid (stp C (kk, tt, dd) = wrap64 (C + dd.size)) := by rw [Hid, stp, if_neg (fun h => h2 h.2)]
          go_wp2_with fail
          go_roundw
          case rel => exact ⟨k + 1, by omega, by go_num, by rw [HT.out, HS.out], HB⟩
          case measure => simp [intOf]; omega
      · have HS : Hid (stp C (kk, tt, dd) = wrap64 (C + dd.size)) := by rw [Hid, stp, if_neg (fun h => h1 h.1)]
        go_wp2_with fail
        go_roundw
        case rel => exact ⟨k + 1, by omega, by go_num, by rw [HT.out, HS.out], HB⟩
        case measure => simp [intOf]; omega
    · have hkk : ¬ (k : Int) < n := by omega
      have HC : Hid (costW (l.take k) = costW l) := by rw [Hid, List.take_of_length_le (by rw [HL.out]; omega)]
      go_wp2_with fail
      go_ret
      exact ⟨ret_int (by rw [HC.out]), HB.out⟩
set_option maxHeartbeats 1000000 in
theorem wcost_any (R : Nat → Prop) (v : Value) (l : List Fr) (w : World) (h : FrsJ R w v l) (hn : l.length ≤ 140737488355328) (hz : ∀ x ∈ l, x.2.2.size ≤ 140737488355328) :
    Calls Tryd.prog 11 #[v] w fun e w' => e = .returned (.int .i64 (costW l)) ∧ Below w.heap.size w w' := by
  obtain ⟨p, c, rfl, hk, _⟩ := h
  obtain ⟨n, hl⟩ : ∃ n, l.length = n := ⟨_, rfl⟩
  rw [hl] at hn ⊢
  have HL : Hid (l.length = n) := hl
  have HZ : Hid (∀ x ∈ l, x.2.2.size ≤ 140737488355328) := hz
  have HK : Hid (FrsK R w p l) := hk
  clear hl hz hk
  go_enter Tryd.func11, Tryd.ntmps11
  go_wp2
  go_loopw [3, 5, 8] (fun s q i wr => ∃ k : Nat, k ≤ n ∧ i = .int .i64 k ∧ s = .int .i64 (costW (l.take k)) ∧ Hid (Below w.heap.size w wr)) (fun _ _ i _ => n - (intOf i).toNat)
  case atStart => exact ⟨0, by omega, rfl, rfl, Below.refl _ _⟩
  case round =>
    obtain ⟨k, hkn, rfl, rfl, HB⟩ := hrel
    by_cases hlt : k < n
    · have hltz : (k : Int) < n := by omega
      obtain ⟨b, o, rfl, _, hc⟩ := HK.out.some (by intro e; have := HL.out; rw [e] at this; simp at this; omega)
      obtain ⟨e1, e2, e3⟩ := hc k (by rw [HL.out]; exact hlt)
      have d1 := keep_cell HB.out e1
      have d2 := keep_cell HB.out e2
      have d3 := keep_cell HB.out e3
      have hsz := HZ.out _ (getD_mem (l := l) (k := k) (by rw [HL.out]; exact hlt))
      have HT : Hid (costW (l.take (k + 1)) = stp (costW (l.take k)) (l.getD k fz)) := costW_take (by rw [HL.out]; exact hlt)
      clear e1 e2 e3 hc
      obtain ⟨x, hx⟩ : ∃ x, l.getD k fz = x := ⟨_, rfl⟩
      rw [hx] at d1 d2 d3 hsz HT
      obtain ⟨kk, tt, dd⟩ := x
      dsimp only at d1 d2 d3 hsz
      clear hx
      generalize costW (l.take k) = C at HT ⊢
      have hB0 : Below w.heap.size w (wr.alloc (.cells #[.int .i64 kk, .int .i64 tt, .string dd] 43)) := HB.out.alloc (HB.out.size) _
      have hA0 := heap_alloc_new wr (.cells #[.int .i64 kk, .int .i64 tt, .string dd] 43)
      go_upto_region 5 with fail
      generalize wr.alloc (.cells #[.int .i64 kk, .int .i64 tt, .string dd] 43) = w0 at hB0 hA0 ⊢
      have HB0 : Hid (Below w.heap.size w w0) := hB0
      have y1 := blk_cell hA0 (i := 1) (u := .int .i64 tt) rfl
      have y2 := blk_cell hA0 (i := 2) (u := .string dd) rfl
      clear hB0 hA0
      by_cases h1 : 0 ≤ tt
      · by_cases h2 : tt ≤ 200
        · have HS : Hid (stp C (kk, tt, dd) = wrap64 (wrap64 (C + tt) + dd.size)) := by rw [Hid, stp, if_pos ⟨h1, h2⟩]
          go_wp2_with fail
          go_roundw
          case rel => exact ⟨k + 1, by omega, by go_num, by rw [HT.out, HS.out], HB0⟩
          case measure => simp [intOf]; omega
        · have HS : Hid (stp C (kk, tt, dd) = wrap64 (C + dd.size)) := by rw [Hid, stp, if_neg (fun h => h2 h.2)]
          go_wp2_with fail
          go_roundw
          case rel => exact ⟨k + 1, by omega, by go_num, by rw [HT.out, HS.out], HB0⟩
          case measure => simp [intOf]; omega
      · have HS : Hid (stp C (kk, tt, dd) = wrap64 (C + dd.size)) := by rw [Hid, stp, if_neg (fun h => h1 h.1)]
        go_wp2_with fail
        go_roundw
        case rel => exact ⟨k + 1, by omega, by go_num, by rw [HT.out, HS.out], HB0⟩
        case measure => simp [intOf]; omega
    · have hkk : ¬ (k : Int) < n := by omega
      have HC : Hid (costW (l.take k) = costW l) := by rw [Hid, List.take_of_length_le (by rw [HL.out]; omega)]
      go_wp2_with fail
      go_ret
      exact ⟨ret_int (by rw [HC.out]), HB.out⟩

end Zp
end Go.Proofs.YtmenknbgmgnfhaaDoor
