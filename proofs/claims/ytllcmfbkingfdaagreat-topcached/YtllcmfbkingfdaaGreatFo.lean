/- What slices.DeleteFunc with the closure of remove answers, of a row of texts. -/
import Derived.Test.YtllcmfbkingfdaaGreatFm
namespace Go.Proofs.YtllcmfbkingfdaaGreat
namespace Fo
set_option linter.unusedVariables false
set_option linter.unusedSimpArgs false
open Go.ChangeShapes Go.WideShapes Go.ChangeAt Go.RowKit Ka Kb Ef Fm
open Ec (e0)

theorem closure_any (x p : ByteArray) (A : Nat) (w : World) (hA : w.cell? ⟨A, 0, none⟩ = some (.string p)) :
    Calls Tryz.prog 48 #[.string x, .pointer (some ⟨A, 0, none⟩)] w fun e w' => e = .returned (.bool (decide (x = p))) ∧ w' = w := by
  have HE : Hid (decide (x = p) = (x.toList == p.toList)) := by
    unfold Hid
    by_cases h : x = p
    · rw [h]; simp
    · rw [decide_eq_false h]
      symm
      rw [beq_eq_false_iff_ne]
      exact fun e => h (bytes_inj e)
  go_enter Tryz.func48, Tryz.ntmps48
  go_wp2
  go_ret
  exact ⟨by rw [HE.out]; rfl, rfl⟩

/- where the first one is that is p; -1 if there is none -/
def FirstAt (p : ByteArray) (l : List ByteArray) (z : Int) : Prop := (z = -1 ∧ ∀ j, j < l.length → decide (l.getD j e0 = p) = false) ∨ ∃ k : Nat, k < l.length ∧ z = k ∧ decide (l.getD k e0 = p) = true ∧ ∀ j, j < k → decide (l.getD j e0 = p) = false

set_option maxHeartbeats 1000000 in
theorem indexFunc_any (g n c : Nat) (l : List ByteArray) (A : Nat) (p : ByteArray) (w : World) (hl : l.length = n) (h : ∀ j, j < n → w.cell? ⟨g, j, none⟩ = some (.string (l.getD j e0))) (hn : n ≤ 1048576) (hA : w.cell? ⟨A, 0, none⟩ = some (.string p)) :
    Calls Tryz.prog 76 #[.slice (some ⟨g, 0, none⟩) n c, .func (.func 48) #[] #[.pointer (some ⟨A, 0, none⟩)]] w fun e w' => (∃ z, e = .returned (.int .i64 z) ∧ FirstAt p l z) ∧ w' = w := by
  have HL : Hid (l.length = n) := hl
  have HI : Hid (∀ j, j < n → w.cell? ⟨g, j, none⟩ = some (.string (l.getD j e0))) := h
  have HC : Hid (∀ x, Calls Tryz.prog 48 #[.string x, .pointer (some ⟨A, 0, none⟩)] w fun e w' => e = .returned (.bool (decide (x = p))) ∧ w' = w) := fun x => closure_any x p A w hA
  clear hl h hA
  go_enter Tryz.func76, Tryz.ntmps76
  go_wp2
  go_loopw [8] (fun vi wr => ∃ (k : Nat), k ≤ n ∧ vi = .int .i64 k ∧ Hid (∀ j, j < k → decide (l.getD j e0 = p) = false) ∧ wr = w) (fun vi _ => n - (intOf vi).toNat)
  case atStart => exact ⟨0, by omega, rfl, fun j hj => absurd hj (by omega), rfl⟩
  case round =>
    obtain ⟨k, hk, rfl, H1, rfl⟩ := hrel
    by_cases hlt : k < n
    · have hltz : (k : Int) < n := by omega
      have a1 := HI.out k hlt
      obtain ⟨x, hx⟩ : ∃ x, x = l.getD k e0 := ⟨_, rfl⟩
      rw [← hx] at a1
      have HX : Hid (x = l.getD k e0) := hx
      clear hx
      have C := HC.out x
      cases hg : decide (x = p)
      · rw [hg] at C
        have H3 : Hid (∀ j, j < k + 1 → decide (l.getD j e0 = p) = false) := by
          intro j hj
          rcases Nat.lt_succ_iff_lt_or_eq.1 hj with h | rfl
          · exact H1.out j h
          · rw [← HX.out]; exact hg
        clear hg
        go_wp2_with fail
        refine C.mono ?_
        rintro e w2 ⟨rfl, hw2⟩
        subst hw2
        clear C
        go_wp2_with fail
        go_roundw
        case rel => exact ⟨k + 1, by omega, by go_num, H3, by first | rfl | trivial⟩
        case measure => simp [intOf]; omega
      · rw [hg] at C
        have H3 : Hid (FirstAt p l (k : Int)) := Or.inr ⟨k, by rw [HL.out]; exact hlt, rfl, by rw [← HX.out]; exact hg, H1.out⟩
        clear hg
        go_wp2_with fail
        refine C.mono ?_
        rintro e w2 ⟨rfl, hw2⟩
        subst hw2
        clear C
        go_wp2_with fail
        go_ret
        exact ⟨⟨_, rfl, H3.out⟩, rfl⟩
    · obtain rfl : k = n := by omega
      have H3 : Hid (FirstAt p l (-1)) := Or.inl ⟨rfl, fun j hj => H1.out j (by rw [← HL.out]; exact hj)⟩
      go_wp2_with fail
      go_ret
      exact ⟨⟨_, rfl, H3.out⟩, rfl⟩

/- those that are another one -/
def stays (p : ByteArray) (l : List ByteArray) : List ByteArray := l.filter fun x => decide (x ≠ p)
theorem stays_all {p : ByteArray} {l : List ByteArray} (h : ∀ j, j < l.length → decide (l.getD j e0 = p) = false) : stays p l = l := by
  unfold stays
  rw [List.filter_eq_self]
  intro x hx
  obtain ⟨j, hj, e⟩ := List.mem_iff_getElem.1 hx
  have := h j hj
  rw [List.getD_eq_getElem?_getD, List.getElem?_eq_getElem hj] at this
  simp only [Option.getD_some] at this
  rw [e] at this; simpa using this
theorem take_next {l : List ByteArray} {k : Nat} (hk : k < l.length) : l.take (k + 1) = l.take k ++ [l.getD k e0] := by
  rw [List.getD_eq_getElem?_getD, List.getElem?_eq_getElem hk, List.take_add_one, List.getElem?_eq_getElem hk]; rfl
theorem stays_next {p : ByteArray} {l : List ByteArray} {k : Nat} (hk : k < l.length) : stays p (l.take (k + 1)) = if decide (l.getD k e0 = p) then stays p (l.take k) else stays p (l.take k) ++ [l.getD k e0] := by
  unfold stays
  rw [take_next hk, List.filter_append]
  cases h : decide (l.getD k e0 = p)
  · simp only [List.filter_cons, List.filter_nil]; rw [if_pos (by simpa using h)]; simp
  · simp only [List.filter_cons, List.filter_nil]; rw [if_neg (by simpa using h)]; simp
/- a row whose first i are those that stay of the first j, and whose rest is as it was -/
def Row (w : World) (g cap n i j : Nat) (K l : List ByteArray) : Prop := ∃ (R : List ByteArray) (cur : Array Value), R.length = n ∧ w.heap[g]? = some (.cells cur 9) ∧ cur.size = cap ∧ n ≤ cap ∧ cur.toList.take n = R.map Value.string ∧ R.take i = K ∧ R.drop j = l.drop j
theorem row_cell {w : World} {g n : Nat} {R : List ByteArray} {cur : Array Value} (h1 : R.length = n) (h2 : w.heap[g]? = some (.cells cur 9)) (h3 : cur.toList.take n = R.map Value.string) {x : Nat} (hx : x < n) : w.cell? ⟨g, x, none⟩ = some (.string (R.getD x e0)) := by
  have h9 : (cur.toList.take n)[x]? = some (.string (R.getD x e0)) := by
    rw [h3, List.getElem?_map, List.getElem?_eq_getElem (by omega), List.getD_eq_getElem?_getD, List.getElem?_eq_getElem (by omega)]; rfl
  rw [List.getElem?_take_of_lt hx, Array.getElem?_toList] at h9
  simp only [World.cell?, h2]
  simpa using h9
theorem Row.at {w : World} {g cap n i j : Nat} {K l : List ByteArray} (h : Row w g cap n i j K l) (hl : l.length = n) (hj : j < n) : w.cell? ⟨g, j, none⟩ = some (.string (l.getD j e0)) := by
  obtain ⟨R, cur, h1, h2, h3, h4, h5, _, h7⟩ := h
  have e : R.getD j e0 = l.getD j e0 := by
    have e1 : (R.drop j)[0]? = (l.drop j)[0]? := by rw [h7]
    rw [List.getElem?_drop, List.getElem?_drop, Nat.add_zero] at e1
    rw [List.getD_eq_getElem?_getD, List.getD_eq_getElem?_getD, e1]
  rw [← e]; exact row_cell h1 h2 h5 hj
theorem Row.any {w : World} {g cap n i j : Nat} {K l : List ByteArray} (h : Row w g cap n i j K l) {x : Nat} (hx : x < n) : ∃ y, w.cell? ⟨g, x, none⟩ = some (.string y) := by
  obtain ⟨R, cur, h1, h2, h3, h4, h5, _, h7⟩ := h
  exact ⟨_, row_cell h1 h2 h5 hx⟩
theorem Row.free {w : World} {g cap n i j : Nat} {K l : List ByteArray} (h : Row w g cap n i j K l) (x : Nat) : w.frozen? ⟨g, x, none⟩ = false := by
  obtain ⟨R, cur, h1, h2, _⟩ := h
  simp [World.frozen?, h2]
theorem Row.skip {w : World} {g cap n i j : Nat} {K l : List ByteArray} (h : Row w g cap n i j K l) : Row w g cap n i (j + 1) K l := by
  obtain ⟨R, cur, h1, h2, h3, h4, h5, h6, h7⟩ := h
  refine ⟨R, cur, h1, h2, h3, h4, h5, h6, ?_⟩
  have := congrArg (List.drop 1) h7
  rwa [List.drop_drop, List.drop_drop] at this
theorem Row.put {w : World} {g cap n i j : Nat} {K l : List ByteArray} {x : ByteArray} (h : Row w g cap n i j K l) (hij : i < j) (hi : i < n) : Row (w.setCell ⟨g, i, none⟩ (.string x)) g cap n (i + 1) (j + 1) (K ++ [x]) l := by
  obtain ⟨R, cur, h1, h2, h3, h4, h5, h6, h7⟩ := h
  refine ⟨R.set i x, cur.setIfInBounds i (.string x), by rw [List.length_set]; exact h1, set_heap h2, by simpa using h3, h4, ?_, ?_, ?_⟩
  · rw [Array.toList_setIfInBounds, List.take_set, h5, List.map_set]
  · rw [← h6, take_next (by rw [List.length_set]; omega), List.take_set_of_le (Nat.le_refl _)]
    congr 1
    rw [List.getD_eq_getElem?_getD, List.getElem?_set_self (by omega)]; rfl
  · rw [List.drop_set_of_lt (by omega)]
    have := congrArg (List.drop 1) h7
    rwa [List.drop_drop, List.drop_drop] at this

set_option maxRecDepth 100000 in
set_option maxHeartbeats 2000000 in
theorem deleteFunc_any (w : World) (g n c : Nat) (l : List ByteArray) (A : Nat) (p : ByteArray) (h : RowT 0 w (.slice (some ⟨g, 0, none⟩) n c) l) (hl : l.length = n) (hn : n ≤ 1048576) (hA : w.cell? ⟨A, 0, none⟩ = some (.string p)) (hgA : g ≠ A) :
    Calls Tryz.prog 47 #[.slice (some ⟨g, 0, none⟩) n c, .func (.func 48) #[] #[.pointer (some ⟨A, 0, none⟩)]] w fun e w' => ∃ m, e = .returned (.slice (some ⟨g, 0, none⟩) m c) ∧ RowT 0 w' (.slice (some ⟨g, 0, none⟩) m c) (stays p l) ∧ Chg (fun x => some g = some x) w w' := by
  rcases h.2 with ⟨e, _⟩ | ⟨g', cap', cur, e, hg, hc, h1, h2, h3, h4⟩
  · cases e
  injection e with e1 e2 e3
  injection e1 with e1
  injection e1 with e1 _
  subst e1 e3
  rw [Nat.mul_one] at h3 h4
  rw [hl] at h1 h4
  have hR0 : Row w g c n 0 0 [] l := ⟨l, cur, hl, hc, h3, h1, h4, rfl, rfl⟩
  have C := indexFunc_any g n c l A p w hl (fun j hj => row_cell hl hc h4 hj) hn hA
  have HC : Hid (∀ wr : World, wr.cell? ⟨A, 0, none⟩ = some (.string p) → ∀ x, Calls Tryz.prog 48 #[.string x, .pointer (some ⟨A, 0, none⟩)] wr fun e w' => e = .returned (.bool (decide (x = p))) ∧ w' = wr) := fun wr hw x => closure_any x p A wr hw
  have HL : Hid (l.length = n) := hl
  have HR : Hid (Row w g c n 0 0 [] l) := hR0
  have HT : Hid (RowT 0 w (.slice (some ⟨g, 0, none⟩) n c) l) := h
  have HA : Hid (w.cell? ⟨A, 0, none⟩ = some (.string p) ∧ g ≠ A) := ⟨hA, hgA⟩
  have HCM : Hid (c ≤ maxLen) := h2
  have hcm2 : c ≤ 9223372036854775807 := by unfold maxLen at h2; omega
  have hnc : n ≤ c := h1
  clear hl h hA hgA h1 h2 h3 h4 hc hg e2 hR0
  go_enter Tryz.func47, Tryz.ntmps47
  go_wp2_with fail
  refine C.mono ?_
  rintro e w1 ⟨⟨z, rfl, hz⟩, hw1⟩
  subst hw1
  clear C
  rcases hz with ⟨rfl, hz⟩ | ⟨k, hk, rfl, hk1, hk2⟩
  · have HS : Hid (stays p l = l) := stays_all hz
    clear hz
    go_wp2_with fail
    go_ret
    exact ⟨_, rfl, by rw [HS.out]; exact HT.out, Chg.refl _ _⟩
  · have hkn : k < n := by rw [← HL.out]; exact hk
    have hkb : ((k : Int) == -1) = false := by rw [beq_eq_false_iff_ne]; omega
    have HR2 : Hid (Row w1 g c n k (k + 1) (stays p (l.take (k + 1))) l) := by
      have e1 : stays p (l.take (k + 1)) = l.take k := by
        rw [stays_next hk, hk1, if_pos rfl]
        refine stays_all fun j hj => ?_
        rw [List.length_take] at hj
        have := hk2 j (by omega)
        rwa [List.getD_eq_getElem?_getD, List.getElem?_take_of_lt (by omega), ← List.getD_eq_getElem?_getD]
      rw [e1]
      obtain ⟨R, cur2, h1, h2, h3, h4, h5, _, h7⟩ := HR.out
      have e : R = l := by simpa using h7
      subst e
      exact ⟨R, cur2, h1, h2, h3, h4, h5, rfl, rfl⟩
    have HS2 : Hid ((stays p (l.take (k + 1))).length = k) := by
      obtain ⟨R, cur2, h1, _, _, _, _, h6, _⟩ := HR2.out
      unfold Hid; rw [← h6, List.length_take]; omega
    clear hk hk1 hk2 HR HT
    go_wp2_with fail
    go_loopw [5, 6] (fun vi vj wr => ∃ (i j : Nat), i < j ∧ j ≤ n ∧ vi = .int .i64 i ∧ vj = .int .i64 j ∧ Hid ((stays p (l.take j)).length = i ∧ Row wr g c n i j (stays p (l.take j)) l) ∧ Hid (Chg (fun x => some g = some x) w1 wr) ∧ Hid (wr.cell? ⟨A, 0, none⟩ = some (.string p))) (fun _ vj _ => n - (intOf vj).toNat)
    case atStart => exact ⟨k, k + 1, by omega, by omega, rfl, by go_num, ⟨HS2.out, HR2.out⟩, Chg.refl _ _, HA.out.1⟩
    case round =>
      clear HR2 HS2
      obtain ⟨i, j, hij, hjn, rfl, rfl, HRR, HB, HAr⟩ := hrel
      by_cases hlt : j < n
      · have hltz : (j : Int) < n := by omega
        have a1 := HRR.out.2.at HL.out hlt
        obtain ⟨x, hx⟩ : ∃ x, x = l.getD j e0 := ⟨_, rfl⟩
        rw [← hx] at a1
        have HSN : Hid (stays p (l.take (j + 1)) = if decide (x = p) then stays p (l.take j) else stays p (l.take j) ++ [x]) := by
          unfold Hid; rw [stays_next (by rw [HL.out]; exact hlt), ← hx]
        clear hx
        have C := HC.out _ HAr.out x
        cases hgo : decide (x = p)
        · rw [hgo] at C HSN
          have hin : i < n := by omega
          have hinz : (i : Int) < n := by omega
          obtain ⟨y, b1⟩ := HRR.out.2.any hin
          have f1 := HRR.out.2.free i
          have HP : Hid ((stays p (l.take (j + 1))).length = i + 1 ∧ Row (wr.setCell ⟨g, i, none⟩ (.string x)) g c n (i + 1) (j + 1) (stays p (l.take (j + 1))) l) := by
            unfold Hid
            rw [HSN.out]
            exact ⟨by simp [HRR.out.1], HRR.out.2.put hij hin⟩
          have HB2 : Hid (Chg (fun x => some g = some x) w1 (wr.setCell ⟨g, i, none⟩ (.string x))) := Chg.setCell (F := fun x => some g = some x) HB.out (p := ⟨g, i, none⟩) rfl _
          have HA2 : Hid ((wr.setCell ⟨g, i, none⟩ (.string x)).cell? ⟨A, 0, none⟩ = some (.string p)) := by
            unfold Hid
            rw [World.cell?_setCell_other _ _ _ _ (by intro e; injection e with e _; exact HA.out.2 e)]
            exact HAr.out
          clear hgo HRR HSN HB HAr
          go_wp2_with fail
          refine C.mono ?_
          rintro e w2 ⟨rfl, hw2⟩
          subst hw2
          clear C
          go_wp2_with fail
          go_roundw
          case rel => exact ⟨i + 1, j + 1, by omega, by omega, by go_num, by go_num, HP.out, HB2, HA2⟩
          case measure => simp [intOf]; omega
        · rw [hgo] at C HSN
          have HP : Hid ((stays p (l.take (j + 1))).length = i ∧ Row wr g c n i (j + 1) (stays p (l.take (j + 1))) l) := by
            unfold Hid
            rw [HSN.out, if_pos (by first | rfl | trivial)]
            exact ⟨HRR.out.1, HRR.out.2.skip⟩
          clear hgo HRR HSN
          go_wp2_with fail
          refine C.mono ?_
          rintro e w2 ⟨rfl, hw2⟩
          subst hw2
          clear C
          go_wp2_with fail
          go_roundw
          case rel => exact ⟨i, j + 1, by omega, by omega, rfl, by go_num, HP.out, HB, HAr⟩
          case measure => simp [intOf]; omega
      · obtain rfl : j = n := by omega
        have hin : i < j := hij
        have hiz : (i : Int) ≤ j := by omega
        have hicz : (i : Int) ≤ c := by omega
        have hci : ¬ c = i := by omega
        have t22 := Tryz.underlying71
        have hcl : ∀ ty, (Builtin.clear_ #[71] ty #[.slice (some ⟨g, i, none⟩) (j - i) (c - i)]).run Tryz.prog wr = .ok (.tuple #[]) (wr.setCells g i (List.replicate (j - i) (.string ByteArray.empty))) :=
          fun ty => Lib.run_clear_slice wr _ _ ty _ t22 zeroS rfl rfl g i _ _ (by omega) (fun t ht => by obtain ⟨y, hy⟩ := HRR.out.2.any (x := i + t) (by omega); rw [hy]; rfl) (fun t ht => HRR.out.2.free _)
        obtain ⟨Z, hZ⟩ : ∃ Z, Z = List.replicate (j - i) (Value.string ByteArray.empty) := ⟨_, rfl⟩
        rw [← hZ] at hcl
        have HB3 : Hid (Chg (fun x => some g = some x) w1 (wr.setCells g i Z)) := chg_setCells (F := fun x => some g = some x) HB.out rfl _ _
        have HM : Hid (RowT 0 (wr.setCells g i Z) (.slice (some ⟨g, 0, none⟩) i c) (stays p l)) := by
          obtain ⟨e1, R, cur2, h1, h2, h3, h4, h5, h6, _⟩ := HRR.out
          have hlt2 : l.take j = l := List.take_of_length_le (by rw [HL.out]; exact Nat.le_refl _)
          rw [hlt2] at e1 h6
          obtain ⟨c2, b1, b2⟩ := heap_setCells Z g i wr cur2 _ _ h2
          refine ⟨by rw [List.length_map, Nat.mul_one], Or.inr ⟨g, c, c2, by rw [e1], Nat.zero_le _, b1, by rw [e1]; omega, HCM.out, by rw [b2, Nat.mul_one]; exact h3, ?_⟩⟩
          rw [Nat.mul_one, e1]
          apply List.ext_getElem?
          intro t
          by_cases ht : t < i
          · rw [List.getElem?_take_of_lt ht, Array.getElem?_toList]
            have q1 : (wr.setCells g i Z).cell? ⟨g, t, none⟩ = some (.string (R.getD t e0)) := by
              rw [World.cell?_setCells_out g _ _ _ _ (fun _ _ => Or.inl (by show t < i; exact ht))]
              exact row_cell h1 h2 h5 (by omega)
            have q2 : ((stays p l).map Value.string)[t]? = some (.string (R.getD t e0)) := by
              rw [← h6, List.getElem?_map, List.getElem?_take_of_lt ht, List.getD_eq_getElem?_getD, List.getElem?_eq_getElem (by omega)]; rfl
            rw [q2, ← q1]
            simp only [World.cell?, b1]
            simp
          · rw [List.getElem?_eq_none (by rw [List.length_take]; omega), List.getElem?_eq_none (by rw [List.length_map, e1]; omega)]
        clear hZ HRR HB t22
        go_wp2_with fail
        go_ret
        exact ⟨_, rfl, HM.out, HB3.out⟩

end Fo
end Go.Proofs.YtllcmfbkingfdaaGreat
