/- What slices.Compact answers, of a row of texts of the call's own. -/
import Derived.Test.YtllcmfbkingfdaaGreatJ6
namespace Go.Proofs.YtllcmfbkingfdaaGreat
namespace Nr
set_option linter.unusedVariables false
open Go.ChangeShapes Go.WideShapes Go.ChangeAt Go.RowKit Cm Ka Kb Na Nb Nc Nd Nl
open La (bel bel_drew errV_zero errV_ne own_ge own_grow own_below)

def noS : ByteArray := ByteArray.empty
/- texts as a value -/
def StsAt (w : World) (v : Value) (l : List ByteArray) : Prop := ∃ p c, v = .slice p l.length c ∧ (l = [] ∨ ∃ b o, p = some ⟨b, o, none⟩ ∧ ∀ j, j < l.length → w.cell? ⟨b, o + j, none⟩ = some (.string (l.getD j noS)))
theorem StsAt.nil (w : World) : StsAt w (.slice none 0 0) [] := ⟨none, 0, rfl, Or.inl rfl⟩
theorem StsAt.below {w w' : World} {v : Value} {l : List ByteArray} (h : StsAt w v l) (hb : Below w.heap.size w w') : StsAt w' v l := by
  obtain ⟨p, c, h1, h2⟩ := h
  refine ⟨p, c, h1, ?_⟩
  rcases h2 with h2 | ⟨b, o, h3, h4⟩
  · exact Or.inl h2
  · exact Or.inr ⟨b, o, h3, fun j hj => keep_cell hb (h4 j hj)⟩
/- each once: of the first k texts those that are not the same as the one ahead -/
def compTo (l : List ByteArray) : Nat → List ByteArray
  | 0 => []
  | k + 1 => if k = 0 ∨ l.getD k noS ≠ l.getD (k - 1) noS then compTo l k ++ [l.getD k noS] else compTo l k
theorem takeS {l : List ByteArray} {k : Nat} (hk : k < l.length) : l.take (k + 1) = l.take k ++ [l.getD k noS] := by
  rw [List.getD_eq_getElem?_getD, List.getElem?_eq_getElem hk, List.take_add_one, List.getElem?_eq_getElem hk]; rfl
theorem compTo_all {l : List ByteArray} : ∀ {k : Nat}, k ≤ l.length → (∀ j, 1 ≤ j → j < k → l.getD j noS ≠ l.getD (j - 1) noS) → compTo l k = l.take k
  | 0, _, _ => rfl
  | k + 1, hk, h => by
    rw [compTo, if_pos, compTo_all (by omega) (fun j h1 h2 => h j h1 (by omega)), takeS (by omega)]
    by_cases h0 : k = 0
    · exact Or.inl h0
    · exact Or.inr (h k (by omega) (by omega))
theorem compTo_same {l : List ByteArray} {k : Nat} (hk : 0 < k) (h : l.getD k noS = l.getD (k - 1) noS) : compTo l (k + 1) = compTo l k := by
  rw [compTo, if_neg]; rintro (e | e)
  · omega
  · exact e h
theorem compTo_next {l : List ByteArray} {k : Nat} (h : l.getD k noS ≠ l.getD (k - 1) noS) : compTo l (k + 1) = compTo l k ++ [l.getD k noS] := by
  rw [compTo, if_pos (Or.inr h)]
theorem compTo_le (l : List ByteArray) : ∀ k, (compTo l k).length ≤ k
  | 0 => Nat.le_refl _
  | k + 1 => by
    have := compTo_le l k
    rw [compTo]; split
    · rw [List.length_append]; simp; omega
    · omega

def SRow (w : World) (g n i j : Nat) (K : List ByteArray) (l : List ByteArray) : Prop := ∃ R : List ByteArray, R.length = n ∧ (∀ x, x < R.length → w.cell? ⟨g, x, none⟩ = some (.string (R.getD x noS))) ∧ R.take i = K ∧ R.drop j = l.drop j
theorem SRow.below {w w' : World} {g n i j : Nat} {K l : List ByteArray} (h : SRow w g n i j K l) (hb : Below w.heap.size w w') : SRow w' g n i j K l := by
  obtain ⟨R, h1, h2, h3, h4⟩ := h
  exact ⟨R, h1, fun x hx => keep_cell hb (h2 x hx), h3, h4⟩
theorem SRow.at {w : World} {g n i j : Nat} {K l : List ByteArray} (h : SRow w g n i j K l) {x : Nat} (hj : j ≤ x) (hx : x < n) : w.cell? ⟨g, x, none⟩ = some (.string (l.getD x noS)) := by
  obtain ⟨R, h1, h2, _, h4⟩ := h
  have e : R.getD x noS = l.getD x noS := by
    have e1 : (R.drop j)[x - j]? = (l.drop j)[x - j]? := by rw [h4]
    rw [List.getElem?_drop, List.getElem?_drop, show j + (x - j) = x by omega] at e1
    rw [List.getD_eq_getElem?_getD, List.getD_eq_getElem?_getD, e1]
  rw [← e]; exact h2 x (by omega)
theorem SRow.any {w : World} {g n i j : Nat} {K l : List ByteArray} (h : SRow w g n i j K l) {x : Nat} (hx : x < n) : ∃ y, w.cell? ⟨g, x, none⟩ = some (.string y) := by
  obtain ⟨R, h1, h2, _, _⟩ := h
  exact ⟨_, h2 x (by omega)⟩
theorem SRow.skip {w : World} {g n i j : Nat} {K l : List ByteArray} (h : SRow w g n i j K l) : SRow w g n i (j + 1) K l := by
  obtain ⟨R, h1, h2, h3, h4⟩ := h
  refine ⟨R, h1, h2, h3, ?_⟩
  have := congrArg (List.drop 1) h4
  rwa [List.drop_drop, List.drop_drop] at this
theorem SRow.put {w : World} {g n i j : Nat} {K l : List ByteArray} {x : ByteArray} (h : SRow w g n i j K l) (hij : i ≤ j) (hi : i < n) :
    SRow (w.setCell ⟨g, i, none⟩ (.string x)) g n (i + 1) (j + 1) (K ++ [x]) l := by
  obtain ⟨R, h1, h2, h3, h4⟩ := h
  refine ⟨R.set i x, by rw [List.length_set]; exact h1, ?_, ?_, ?_⟩
  · intro y hy
    rw [List.length_set] at hy
    by_cases e : y = i
    · subst e
      rw [World.cell?_setCell_same _ _ _ (h2 y hy), List.getD_eq_getElem?_getD, List.getElem?_set_self hy]; rfl
    · rw [World.cell?_setCell_other _ _ _ _ (by intro e2; injection e2; omega), h2 y hy, List.getD_eq_getElem?_getD, List.getD_eq_getElem?_getD, List.getElem?_set_ne (by omega)]
  · rw [← h3, takeS (by rw [List.length_set]; omega), List.take_set_of_le (Nat.le_refl _)]
    congr 1
    rw [List.getD_eq_getElem?_getD, List.getElem?_set_self (by omega)]; rfl
  · rw [List.drop_set_of_lt (by omega)]
    have := congrArg (List.drop 1) h4
    rwa [List.drop_drop, List.drop_drop] at this

theorem zero_text (w : World) : (zeroValue 9).run Tryz.prog w = .ok (.string ⟨#[]⟩) w := by kernel_rfl
theorem clear_texts (w : World) (g i n c : Nat) (ty : TypeId) (hi : i < n) (hc : ∀ k, k < n → (w.cell? ⟨g, k, none⟩).isSome = true) (hf : ∀ o, w.frozen? ⟨g, o, none⟩ = false) :
    (Builtin.clear_ #[71] ty #[.slice (some ⟨g, i, none⟩) (n - i) (c - i)]).run Tryz.prog w = .ok (.tuple #[]) (w.setCells g i (Builtin.zeroCells (Value.string ⟨#[]⟩).cells (n - i)).toList) :=
  run_clear w 71 9 ty (.string ⟨#[]⟩) Tryz.underlying71 zero_text (by decide) (by intro u hu; simp [Value.cells] at hu; subst hu; rfl) g i (n - i) (c - i) (by omega)
    (fun j hj => hc _ (by have : (Value.string ⟨#[]⟩).cells.size = 1 := rfl; rw [this] at hj; omega)) hf

set_option maxRecDepth 100000 in
set_option maxHeartbeats 4000000 in
theorem compact_any (W0 w : World) (g n c : Nat) (l : List ByteArray) (hl : l.length = n) (hcs : ∀ j, j < l.length → w.cell? ⟨g, j, none⟩ = some (.string (l.getD j noS))) (hfr : ∀ o, w.frozen? ⟨g, o, none⟩ = false) (hg : W0.heap.size ≤ g) (hb0 : Below W0.heap.size W0 w) (hn : n ≤ 1000) (hnc : n ≤ c) (hcm : c ≤ 1000) :
    Calls Tryz.prog 74 #[.slice (some ⟨g, 0, none⟩) n c] w fun e w' => ∃ v', e = .returned v' ∧ StsAt w' v' (compTo l n) ∧ Below W0.heap.size W0 w' := by
  have HL : Hid (l.length = n) := hl
  have HR : Hid (SRow w g n 0 0 [] l) := ⟨l, hl, hcs, rfl, rfl⟩
  have HF : Hid (∀ o, w.frozen? ⟨g, o, none⟩ = false) := hfr
  have HB0 : Hid (Below W0.heap.size W0 w) := hb0
  have HGL : Hid (W0.heap.size ≤ g) := hg
  have HALL : Hid (∀ wr, SRow wr g n 0 0 [] l → (∀ j, 1 ≤ j → j < n → l.getD j noS ≠ l.getD (j - 1) noS) → StsAt wr (.slice (some ⟨g, 0, none⟩) n c) (compTo l n)) := by
    intro wr hrow hne
    rw [compTo_all (by omega) hne, List.take_of_length_le (by omega)]
    obtain ⟨R, h1, h2, _, h4⟩ := hrow
    have e : R = l := by simpa using h4
    subst e
    exact ⟨some ⟨g, 0, none⟩, c, by rw [hl], Or.inr ⟨g, 0, rfl, fun j hj => by rw [Nat.zero_add]; exact h2 j hj⟩⟩
  clear hl hcs hfr hg hb0
  by_cases hn2 : n < 2
  · have hn2z : (n : Int) < 2 := by omega
    have HA : Hid (StsAt w (.slice (some ⟨g, 0, none⟩) n c) (compTo l n)) := HALL.out w HR.out (fun j h1 h2 => by omega)
    go_enter Tryz.func74, Tryz.ntmps74
    go_wp2_with fail
    go_ret
    exact ⟨_, rfl, HA.out, HB0.out⟩
  · have hn2z : ¬ (n : Int) < 2 := by omega
    go_enter Tryz.func74, Tryz.ntmps74
    go_wp2_with fail
    go_loopw [3] (fun vk wr => ∃ k : Nat, 1 ≤ k ∧ k ≤ n ∧ vk = .int .i64 k ∧ Hid (∀ j, 1 ≤ j → j < k → l.getD j noS ≠ l.getD (j - 1) noS) ∧ Hid (SRow wr g n 0 0 [] l) ∧ Hid (∀ o, wr.frozen? ⟨g, o, none⟩ = false) ∧ Hid (Below W0.heap.size W0 wr)) (fun vk _ => n - (intOf vk).toNat)
    case atStart => exact ⟨1, by omega, by omega, rfl, fun j h1 h2 => by omega, HR, HF, HB0⟩
    case round =>
      clear HR HF HB0
      obtain ⟨k, hk1, hkn, rfl, HN, HR, HF, HB⟩ := hrel
      by_cases hlt : k < n
      · have hltz : (k : Int) < n := by omega
        obtain ⟨m, hm⟩ : ∃ m, m + 1 = k := ⟨k - 1, by omega⟩
        have hkm : IntKind.i64.wrap ((k : Int) - 1) = (m : Int) := by rw [show (k : Int) - 1 = (m : Int) by omega]; exact wrap_in (by omega) (by omega)
        have hmz : (m : Int) < n := by omega
        have a1 := HR.out.at (Nat.zero_le k) hlt
        have a0 := HR.out.at (x := m) (Nat.zero_le m) (by omega)
        have HM : Hid (k - 1 = m) := by unfold Hid; omega
        by_cases hxy : l.getD k noS = l.getD m noS
        · have HS : Hid (compTo l (k + 1) = l.take k) := by
            unfold Hid; rw [compTo_same (by omega) (by rw [HM.out]; exact hxy), compTo_all (by rw [HL.out]; omega) HN.out]
          rw [hxy] at a1
          obtain ⟨y, hy⟩ : ∃ y, y = l.getD m noS := ⟨_, rfl⟩
          rw [← hy] at a0 a1
          have hkc : ¬ c = k := by omega
          have hkcz : (k : Int) ≤ c := by omega
          have hknz : (k : Int) ≤ n := by omega
          have HR2 : Hid (∀ wq, SRow wq g n 0 0 [] l → SRow wq g n k k (compTo l (k + 1)) l) := by
            intro wq hrow
            obtain ⟨R, h1, h2, _, h4⟩ := hrow
            have e : R = l := by simpa using h4
            subst e
            exact ⟨R, h1, h2, HS.out.symm, rfl⟩
          have HSL : Hid ((compTo l (k + 1)).length = k) := by unfold Hid; rw [HS.out, List.length_take, HL.out]; omega
          clear hxy hy HALL
          go_wp2_with fail
          go_quiet (fail)
          generalize hwq : World.drewN _ _ = wq
          have HRQ : Hid (SRow wq g n 0 0 [] l) := by rw [← hwq]; exact HR.out
          have HFQ : Hid (∀ o, wq.frozen? ⟨g, o, none⟩ = false) := by rw [← hwq]; exact HF.out
          have HBQ : Hid (Below W0.heap.size W0 wq) := by rw [← hwq]; exact bel_drew HB.out _
          clear hwq a0 a1 HR HF HB
          go_wp2_with fail
          generalize hN2 : n - k = N2
          generalize hC2 : c - k = c2
          have HN2 : Hid (k + N2 = n) := by unfold Hid; omega
          have hN2s : N2 ≤ 1000 := by omega
          have hN21 : 1 ≤ N2 := by omega
          clear hN2 hC2
          go_loopw [3, 5] (fun vk vj wr => ∃ i j : Nat, 1 ≤ j ∧ j ≤ N2 ∧ i + 1 ≤ k + j ∧ vk = .int .i64 i ∧ vj = .int .i64 j ∧ Hid ((compTo l (k + j)).length = i ∧ SRow wr g n i (k + j - 1) (compTo l (k + j)) l) ∧ Hid (∀ o, wr.frozen? ⟨g, o, none⟩ = false) ∧ Hid (Below W0.heap.size W0 wr)) (fun _ vj _ => N2 - (intOf vj).toNat)
          case atStart => exact ⟨k, 1, by omega, by omega, by omega, rfl, rfl, ⟨HSL.out, by rw [Nat.add_sub_cancel]; exact HR2.out _ HRQ.out⟩, HFQ, HBQ⟩
          case round =>
            clear HRQ HFQ HBQ HR2 HSL HS
            obtain ⟨i, j, hj1, hjN, hij, rfl, rfl, HRR, HF, HB⟩ := hrel
            have HNN := HN2.out
            by_cases hjlt : j < N2
            · have hjz : (j : Int) < N2 := by omega
              obtain ⟨m2, hm2⟩ : ∃ m2, m2 + 1 = j := ⟨j - 1, by omega⟩
              have hjm : IntKind.i64.wrap ((j : Int) - 1) = (m2 : Int) := by rw [show (j : Int) - 1 = (m2 : Int) by omega]; exact wrap_in (by omega) (by omega)
              have hm2z : (m2 : Int) < N2 := by omega
              have a1 := HRR.out.2.at (x := k + j) (by omega) (by omega)
              have a0 := HRR.out.2.at (x := k + m2) (by omega) (by omega)
              have HKJ : Hid (k + j - 1 = k + m2 ∧ k + j - 1 + 1 = k + j ∧ k + (j + 1) - 1 = k + j) := ⟨by omega, by omega, by omega⟩
              by_cases hxy : l.getD (k + j) noS = l.getD (k + m2) noS
              · have HS : Hid (compTo l (k + (j + 1)) = compTo l (k + j)) := by
                  unfold Hid; exact compTo_same (k := k + j) (by omega) (by rw [HKJ.out.1]; exact hxy)
                have HR2 : Hid (∀ wq, SRow wq g n i (k + j - 1) (compTo l (k + j)) l → (compTo l (k + (j + 1))).length = i ∧ SRow wq g n i (k + (j + 1) - 1) (compTo l (k + (j + 1))) l) := by
                  intro wq hrow
                  rw [HS.out, HKJ.out.2.2]
                  refine ⟨HRR.out.1, ?_⟩
                  have h9 := hrow.skip
                  rw [HKJ.out.2.1] at h9; exact h9
                rw [hxy] at a1
                obtain ⟨y, hy⟩ : ∃ y, y = l.getD (k + m2) noS := ⟨_, rfl⟩
                rw [← hy] at a0 a1
                clear hxy hy HNN
                go_wp2_with fail
                go_quiet (fail)
                generalize hwq : World.drewN _ _ = wq
                have HRQ : Hid (SRow wq g n i (k + j - 1) (compTo l (k + j)) l) := by rw [← hwq]; exact HRR.out.2
                have HFQ : Hid (∀ o, wq.frozen? ⟨g, o, none⟩ = false) := by rw [← hwq]; exact HF.out
                have HBQ : Hid (Below W0.heap.size W0 wq) := by rw [← hwq]; exact bel_drew HB.out _
                clear hwq a0 a1 HF HB HRR
                go_wp2_with fail
                go_roundw
                case rel => exact ⟨i, j + 1, by omega, by omega, by omega, rfl, by go_num, HR2.out _ HRQ.out, HFQ, HBQ⟩
                case measure => simp [intOf]; omega
              · have HS : Hid (compTo l (k + (j + 1)) = compTo l (k + j) ++ [l.getD (k + j) noS]) := by
                  unfold Hid; exact compTo_next (k := k + j) (by rw [HKJ.out.1]; exact hxy)
                have hin : i < n := by omega
                have hinz : (i : Int) < n := by omega
                obtain ⟨x, hx⟩ : ∃ x, x = l.getD (k + j) noS := ⟨_, rfl⟩
                obtain ⟨y, hy⟩ : ∃ y, y = l.getD (k + m2) noS := ⟨_, rfl⟩
                rw [← hx] at a1 hxy HS
                rw [← hy] at a0 hxy
                have HR2 : Hid (∀ wq, SRow wq g n i (k + j - 1) (compTo l (k + j)) l → (compTo l (k + (j + 1))).length = i + 1 ∧ SRow (wq.setCell ⟨g, i, none⟩ (.string x)) g n (i + 1) (k + (j + 1) - 1) (compTo l (k + (j + 1))) l) := by
                  intro wq hrow
                  rw [HS.out, HKJ.out.2.2]
                  refine ⟨by rw [List.length_append, HRR.out.1]; rfl, ?_⟩
                  have h9 := hrow.put (x := x) (by omega) hin
                  rw [HKJ.out.2.1] at h9; exact h9
                have hne : ¬ x.toList = y.toList := fun e => hxy (Bm.bytes_inj e)
                have hnb : (x.toList == y.toList) = false := by simpa using hne
                clear hxy hy hx HNN hne
                go_wp2_with fail
                go_quiet (fail)
                generalize hwq : World.drewN _ _ = wq
                have HRQ : Hid (SRow wq g n i (k + j - 1) (compTo l (k + j)) l) := by rw [← hwq]; exact HRR.out.2
                have HFQ : Hid (∀ o, wq.frozen? ⟨g, o, none⟩ = false) := by rw [← hwq]; exact HF.out
                have HBQ : Hid (Below W0.heap.size W0 wq) := by rw [← hwq]; exact bel_drew HB.out _
                have a2 : wq.cell? ⟨g, k + j, none⟩ = some (.string x) := by rw [← hwq]; exact a1
                obtain ⟨z, hz⟩ := HRQ.out.any hin
                have hfz := HFQ.out i
                have HB3 : Hid (Below W0.heap.size W0 (wq.setCell ⟨g, i, none⟩ (.string x))) := HBQ.out.setCell (p := ⟨g, i, none⟩) HGL.out _
                clear hwq a0 a1 HF HB HRR
                go_wp2_with fail
                go_roundw
                case rel => exact ⟨i + 1, j + 1, by omega, by omega, by omega, by go_num, by go_num, HR2.out _ HRQ.out, fun o => by rw [World.frozen?_setCell]; exact HFQ.out o, HB3⟩
                case measure => simp [intOf]; omega
            · obtain rfl : j = N2 := by omega
              have hin : i < n := by omega
              have hiz : (i : Int) ≤ n := by omega
              have hicz : (i : Int) ≤ c := by omega
              have hci : ¬ c = i := by omega
              have hcl := fun ty => clear_texts wr g i n c ty hin (fun x hx => by obtain ⟨y, hy⟩ := HRR.out.2.any hx; rw [hy]; rfl) HF.out
              obtain ⟨Z, hZ⟩ : ∃ Z, Z = (Builtin.zeroCells (Value.string ⟨#[]⟩).cells (n - i)).toList := ⟨_, rfl⟩
              rw [← hZ] at hcl
              have HB3 : Hid (Below W0.heap.size W0 (wr.setCells g i Z)) := below_setCells HGL.out _ _ _ HB.out
              have HM3 : Hid (StsAt (wr.setCells g i Z) (.slice (some ⟨g, 0, none⟩) i c) (compTo l n)) := by
                obtain ⟨e1, R, h1, h2, h3, _⟩ := HRR.out
                rw [HNN] at e1 h3
                refine ⟨some ⟨g, 0, none⟩, c, by rw [e1], Or.inr ⟨g, 0, rfl, fun x hx => ?_⟩⟩
                rw [e1] at hx
                have e2 : (compTo l n).getD x noS = R.getD x noS := by
                  rw [← h3, List.getD_eq_getElem?_getD, List.getElem?_take_of_lt hx, ← List.getD_eq_getElem?_getD]
                rw [e2, Nat.zero_add, World.cell?_setCells_out _ _ _ _ _ (fun _ _ => Or.inl (by simp only []; omega))]
                exact h2 x (by omega)
              clear hZ HRR HNN
              go_wp2_with fail
              go_ret
              exact ⟨_, rfl, HM3.out, HB3.out⟩
        · obtain ⟨x, hx⟩ : ∃ x, x = l.getD k noS := ⟨_, rfl⟩
          obtain ⟨y, hy⟩ : ∃ y, y = l.getD m noS := ⟨_, rfl⟩
          have HN3 : Hid (∀ j, 1 ≤ j → j < k + 1 → l.getD j noS ≠ l.getD (j - 1) noS) := by
            intro j h1 h2
            rcases Nat.lt_succ_iff_lt_or_eq.1 h2 with h | rfl
            · exact HN.out j h1 h
            · rw [HM.out]; exact hxy
          rw [← hx] at a1 hxy
          rw [← hy] at a0 hxy
          have hne : ¬ x.toList = y.toList := fun e => hxy (Bm.bytes_inj e)
          have hnb : (x.toList == y.toList) = false := by simpa using hne
          clear hxy hy hx hne HN
          go_wp2_with fail
          go_quiet (fail)
          generalize hwq : World.drewN _ _ = wq
          have HRQ : Hid (SRow wq g n 0 0 [] l) := by rw [← hwq]; exact HR.out
          have HFQ : Hid (∀ o, wq.frozen? ⟨g, o, none⟩ = false) := by rw [← hwq]; exact HF.out
          have HBQ : Hid (Below W0.heap.size W0 wq) := by rw [← hwq]; exact bel_drew HB.out _
          clear hwq a0 a1 HR HF HB
          go_wp2_with fail
          go_roundw
          case rel => exact ⟨k + 1, by omega, by omega, by go_num, HN3, HRQ, HFQ, HBQ⟩
          case measure => simp [intOf]; omega
      · obtain rfl : k = n := by omega
        have HA : Hid (StsAt wr (.slice (some ⟨g, 0, none⟩) k c) (compTo l k)) := HALL.out wr HR.out HN.out
        go_wp2_with fail
        go_ret
        exact ⟨_, rfl, HA.out, HB.out⟩

end Nr
end Go.Proofs.YtllcmfbkingfdaaGreat
