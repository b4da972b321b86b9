/- The document's answer: the least cost, row by row. -/
import Derived.Test.YtmenknbgmgnfhaaDoorZn
namespace Go.Proofs.YtmenknbgmgnfhaaDoor
namespace Zq
set_option linter.unusedVariables false
set_option linter.unusedSimpArgs false
open Go.ChangeShapes Go.WideShapes Go.ChangeAt Go.RowKit Ka Kb Zb Zc Zd Ze Zf Zg Zh Zi Zj Zm Zn

/- a row of ints, the first k of which are laid -/
structure Ln (w : World) (g m : Nat) (f : Nat → Nat) (k : Nat) (wr : World) : Prop where
  bel : Below w.heap.size w wr
  old : w.heap.size ≤ g
  row : ∃ cs : Array Value, wr.heap[g]? = some (.cells cs 3) ∧ cs.size = m + 1 ∧ ∀ j, j < k → cs[j]? = some (.int .i64 (f j))
theorem Ln.lt {w wr : World} {g m k : Nat} {f : Nat → Nat} (h : Ln w g m f k wr) : g < wr.heap.size := by
  obtain ⟨cs, h1, _⟩ := h.row; exact (Array.getElem?_eq_some_iff.1 h1).1
theorem Ln.start {w w0 : World} {m : Nat} (f : Nat → Nat) (hb : Below w.heap.size w w0) : Ln w w0.heap.size m f 0 (w0.alloc (.cells (madeCells (Value.int .i64 0).cells (m + 1)) 3)) :=
  ⟨hb.alloc hb.size _, hb.size, _, heap_alloc_new w0 _, size_madeCells _ _, fun j hj => absurd hj (by omega)⟩
theorem Ln.below {w wr w2 : World} {g m k : Nat} {f : Nat → Nat} (h : Ln w g m f k wr) (hb : Below wr.heap.size wr w2) : Ln w g m f k w2 := by
  obtain ⟨h1, h2, cs, h3, h4⟩ := h
  exact ⟨Zd.bel h1 hb, h2, cs, by rw [hb.block g (Array.getElem?_eq_some_iff.1 h3).1]; exact h3, h4⟩
theorem Ln.other {w wr : World} {g g' o m k : Nat} {f : Nat → Nat} (h : Ln w g m f k wr) (hb : w.heap.size ≤ g') (hne : g ≠ g') (v : Value) : Ln w g m f k (wr.setCell ⟨g', o, none⟩ v) := by
  obtain ⟨h1, h2, cs, h3, h4⟩ := h
  exact ⟨h1.setCell (p := ⟨g', o, none⟩) hb _, h2, cs, by rw [set_block _ _ _ _ hne]; exact h3, h4⟩
theorem Ln.at' {w wr : World} {g m k : Nat} {f : Nat → Nat} (h : Ln w g m f k wr) {j : Nat} (hj : j < k) : wr.cell? ⟨g, j, none⟩ = some (.int .i64 (f j)) := by
  obtain ⟨cs, h3, _, h5⟩ := h.row
  exact blk_cell h3 (h5 j hj)
theorem Ln.cell {w wr : World} {g m k : Nat} {f : Nat → Nat} (h : Ln w g m f k wr) {j : Nat} (hj : j ≤ m) : (∃ v, wr.cell? ⟨g, j, none⟩ = some v) ∧ wr.frozen? ⟨g, j, none⟩ = false := by
  obtain ⟨cs, h3, h4, _⟩ := h.row
  exact ⟨⟨cs[j]'(by omega), blk_cell h3 (Array.getElem?_eq_getElem (by omega))⟩, blk_free h3⟩
theorem Ln.put {w wr : World} {g m k : Nat} {f : Nat → Nat} (h : Ln w g m f k wr) (hk : k ≤ m) (x : Nat) (hx : x = f k) : Ln w g m f (k + 1) (wr.setCell ⟨g, k, none⟩ (.int .i64 x)) := by
  obtain ⟨h1, h2, cs, h3, h4, h5⟩ := h
  refine ⟨h1.setCell (p := ⟨g, k, none⟩) h2 _, h2, _, set_heap h3, by simpa using h4, fun j hj => ?_⟩
  rw [Array.getElem?_setIfInBounds]
  by_cases e : k = j
  · subst e; rw [if_pos rfl, if_pos (by omega), hx]
  · rw [if_neg e]; exact h5 j (by omega)
theorem nx_eq (up left corner : Nat) : nx up left corner true = (if corner < (if left + 1 < up + 1 then left + 1 else up + 1) then corner else if left + 1 < up + 1 then left + 1 else up + 1) := by
  unfold nx; simp
theorem nx_ne (up left corner : Nat) : nx up left corner false = (if left + 1 < up + 1 then left + 1 else up + 1) := by
  unfold nx; simp
theorem pl_at (a b : ByteArray) {i k : Nat} (hi : i < a.size) (hk : k < b.size) : pl a.toList b.toList (i + 1) (k + 1) = nx (pl a.toList b.toList i (k + 1)) (pl a.toList b.toList (i + 1) k) (pl a.toList b.toList i k) (decide (a[i] = b[k])) := by
  have h1 : i < a.toList.length := by rw [Kb.len_eq]; exact hi
  have h2 : k < b.toList.length := by rw [Kb.len_eq]; exact hk
  rw [pl_next a.toList b.toList h1 h2]
  congr 1
  have e1 : a.toList[i] = a[i] := by
    have := drop_at hi
    rw [List.drop_eq_getElem_cons h1] at this
    exact (List.cons.inj this).1
  have e2 : b.toList[k] = b[k] := by
    have := drop_at hk
    rw [List.drop_eq_getElem_cons h2] at this
    exact (List.cons.inj this).1
  rw [e1, e2]
  rw [Bool.eq_iff_iff]; simp

set_option maxRecDepth 100000 in
set_option maxHeartbeats 4000000 in
theorem least_any (a b : ByteArray) (w : World) (ha : a.size ≤ 200) (hb : b.size ≤ 200) :
    Calls Tryd.prog 8 #[.string a, .string b] w fun e w' => e = .returned (.int .i64 (least a.toList b.toList)) ∧ Hid (Below w.heap.size w w') := by
  obtain ⟨i2, hi2, hz2, hs2, hb2⟩ := info_parts infoInt
  have HN : Hid (a.toList.length = a.size) := Kb.len_eq a
  have HM : Hid (b.toList.length = b.size) := Kb.len_eq b
  have HPZ : Hid (∀ k, k ≤ b.size → pl a.toList b.toList 0 k = k) := fun k hk => pl_zero _ _ (by rw [HM.out]; exact hk)
  have HPY : Hid (∀ i, i ≤ a.size → pl a.toList b.toList i 0 = i) := fun i hi => pl_zero' _ _ (by rw [HN.out]; exact hi)
  have HPA : Hid (pl a.toList b.toList a.size b.size = least a.toList b.toList) := by
    have := pl_all a.toList b.toList
    rw [HN.out, HM.out] at this; exact this
  have HPL : Hid (∀ i k, i ≤ a.size → k ≤ b.size → pl a.toList b.toList i k ≤ 400) := fun i k hi hk => by have := pl_le a.toList b.toList i k; omega
  have HPX : Hid (∀ (i k : Nat) (hi : i < a.size) (hk : k < b.size), pl a.toList b.toList (i + 1) (k + 1) = nx (pl a.toList b.toList i (k + 1)) (pl a.toList b.toList (i + 1) k) (pl a.toList b.toList i k) (decide (a[i] = b[k]))) := fun i k hi hk => pl_at a b hi hk
  generalize pl a.toList b.toList = P at HPZ HPY HPA HPL HPX
  go_enter Tryd.func8, Tryd.ntmps8
  go_wp2_with (at_make; refine wpList_mk _ rfl (.tmp 13) (.tmp 13) 45 rfl 3 i2 (.int .i64 0) Tryd.underlying45 hi2 hz2 hs2 _ _ (b.size + 1) (b.size + 1) rfl rfl (by omega) (by omega) (Nat.le_refl _) (by rw [hb2]; omega) (by omega) ?_; generalize hw1 : w.alloc _ = w1; have HF : Hid (Ln w w.heap.size b.size (P 0) 0 w1) := by rw [← hw1]; exact Ln.start (P 0) (Below.refl _ _))
  clear hw1
  go_loopw [6] (fun v wr => ∃ k : Nat, k ≤ b.size + 1 ∧ v = .int .i64 k ∧ Hid (Ln w w.heap.size b.size (P 0) k wr)) (fun v _ => b.size + 1 - (intOf v).toNat)
  case atStart => exact ⟨0, by omega, rfl, HF⟩
  case round =>
    clear HF
    obtain ⟨k, hk, rfl, HF⟩ := hrel
    by_cases hlt : k ≤ b.size
    · have hltz : (k : Int) ≤ (b.size : Int) := by omega
      obtain ⟨⟨old, d3⟩, d4⟩ := HF.out.cell hlt
      have HX : Hid (Ln w w.heap.size b.size (P 0) (k + 1) (wr.setCell ⟨w.heap.size, k, none⟩ (.int .i64 k))) := HF.out.put hlt k (HPZ.out k hlt).symm
      go_wp2_with fail
      go_roundw
      case rel => exact ⟨k + 1, by omega, by go_num, HX⟩
      case measure => simp [intOf]; omega
    · have hltz : ¬ (k : Int) ≤ (b.size : Int) := by omega
      obtain rfl : k = b.size + 1 := by omega
      go_wp2_with fail
      go_loopw [5, 7, 8, 9, 10] (fun s5 s7 _ _ _ wr => ∃ (i g : Nat), i ≤ a.size ∧ s7 = .int .i64 (i + 1 : Nat) ∧ s5 = .slice (some ⟨g, 0, none⟩) (b.size + 1) (b.size + 1) ∧ Hid (Ln w g b.size (P i) (b.size + 1) wr)) (fun _ s7 _ _ _ _ => a.size + 2 - (intOf s7).toNat)
      case atStart => exact ⟨0, w.heap.size, Nat.zero_le _, rfl, rfl, HF⟩
      case round =>
        clear HF
        obtain ⟨i, g, hi, rfl, rfl, HF⟩ := hrel
        have ei : ((i + 1 : Nat) : Int) = (i : Int) + 1 := by omega
        rw [ei]
        by_cases hil : i < a.size
        · have hiz : (i : Int) + 1 ≤ (a.size : Int) := by omega
          have hgl : g < wr.heap.size := HF.out.lt
          have HBW : Hid (Below w.heap.size w wr) := HF.out.bel
          go_upto_region 10 with (at_make; refine wpList_mk _ rfl (.tmp 33) (.tmp 33) 45 rfl 3 i2 (.int .i64 0) Tryd.underlying45 hi2 hz2 hs2 _ _ (b.size + 1) (b.size + 1) rfl rfl (by omega) (by omega) (Nat.le_refl _) (by rw [hb2]; omega) (by omega) ?_; generalize hwm : wr.alloc _ = wm; have HG : Hid (Ln w wr.heap.size b.size (P (i + 1)) 0 wm) := (by rw [← hwm]; exact Ln.start (P (i + 1)) HBW.out); have HF2 : Hid (Ln w g b.size (P i) (b.size + 1) wm) := (by rw [← hwm]; exact HF.out.below ((Below.refl _ wr).alloc (Nat.le_refl _) _)))
          clear hwm
          obtain ⟨⟨old, d3⟩, d4⟩ := HG.out.cell (j := 0) (Nat.zero_le _)
          have hne : g ≠ wr.heap.size := by omega
          have HG1 : Hid (Ln w wr.heap.size b.size (P (i + 1)) 1 (wm.setCell ⟨wr.heap.size, 0, none⟩ (.int .i64 ((i : Int) + 1)))) := by
            have h9 := HG.out.put (Nat.zero_le _) (i + 1) (HPY.out (i + 1) (by omega)).symm
            rw [ei] at h9; exact h9
          have HF3 : Hid (Ln w g b.size (P i) (b.size + 1) (wm.setCell ⟨wr.heap.size, 0, none⟩ (.int .i64 ((i : Int) + 1)))) := HF2.out.other HBW.out.size hne _
          obtain ⟨h, hh⟩ : ∃ h, h = wr.heap.size := ⟨_, rfl⟩
          rw [← hh] at hne d3 d4 HG1 HF3 ⊢
          have HHW : Hid (w.heap.size ≤ h) := by rw [Hid, hh]; exact HBW.out.size
          clear hh HG HF2 HF hgl HBW
          go_wp2_with fail
          go_loopw [9, 10] (fun s9 _ wr => ∃ k : Nat, k ≤ b.size ∧ s9 = .int .i64 (k + 1 : Nat) ∧ Hid (Ln w h b.size (P (i + 1)) (k + 1) wr) ∧ Hid (Ln w g b.size (P i) (b.size + 1) wr)) (fun s9 _ _ => b.size + 2 - (intOf s9).toNat)
          case atStart => exact ⟨0, Nat.zero_le _, rfl, HG1, HF3⟩
          case round =>
            clear HG1 HF3 d3 d4
            obtain ⟨k, hk, rfl, HG, HF⟩ := hrel
            have ek : ((k + 1 : Nat) : Int) = (k : Int) + 1 := by omega
            rw [ek]
            by_cases hkl : k < b.size
            · have hkz : (k : Int) + 1 ≤ (b.size : Int) := by omega
              have c1 := HF.out.at' (j := k + 1) (by omega)
              have c2 := HG.out.at' (j := k) (by omega)
              have c3 := HF.out.at' (j := k) (by omega)
              obtain ⟨⟨old, d3⟩, d4⟩ := HG.out.cell (j := k + 1) (by omega)
              have hup := HPL.out i (k + 1) (by omega) (by omega)
              have hlf := HPL.out (i + 1) k (by omega) (by omega)
              have hco := HPL.out i k (by omega) (by omega)
              have HX := HPX.out i k hil hkl
              have HPU : Hid (∀ W : World, Below wr.heap.size wr W → ∀ x : Nat, x = P (i + 1) (k + 1) → (Ln w h b.size (P (i + 1)) (k + 1 + 1) (W.setCell ⟨h, k + 1, none⟩ (.int .i64 x)) ∧ Ln w g b.size (P i) (b.size + 1) (W.setCell ⟨h, k + 1, none⟩ (.int .i64 x))) ∧ (∃ v, W.cell? ⟨h, k + 1, none⟩ = some v) ∧ W.frozen? ⟨h, k + 1, none⟩ = false) := fun W hW x hx => ⟨⟨(HG.out.below hW).put (by omega) x hx, (HF.out.below hW).other HHW.out hne _⟩, (HG.out.below hW).cell (by omega)⟩
              generalize P i (k + 1) = up at c1 hup HX
              generalize P (i + 1) k = lf at c2 hlf HX
              generalize P i k = co at c3 hco HX
              generalize P (i + 1) (k + 1) = res at HX HPU
              by_cases hlt2 : lf + 1 < up + 1
              · have hlz : (lf : Int) + 1 < (up : Int) + 1 := by omega
                cases h3 : ((a[i].toNat : Int) == (b[k].toNat : Int))
                case true =>
                  by_cases hcl : co < lf + 1
                  · have hcz : (co : Int) < (lf : Int) + 1 := by omega
                    have HV : Hid (res = co) := by
                      rw [u8_eq, decide_eq_true_eq] at h3
                      rw [Hid, HX, decide_eq_true h3, nx_eq]
                      rw [if_pos hlt2, if_pos hcl]
                    clear HX
                    go_wp2_with fail
                    go_region
                    generalize hwq : World.drew _ = w9
                    obtain ⟨⟨HG9, HF9⟩, ⟨o9, d9⟩, d8⟩ := HPU.out w9 (by rw [← hwq]; exact (Below.refl _ wr).drew) (co) HV.out.symm
                    have c9 : w9.cell? ⟨g, k, none⟩ = some (.int .i64 co) := keep_cell (by rw [← hwq]; exact (Below.refl _ wr).drew) c3; clear hwq HPU d3 d4 c1 c2 c3
                    have HG8 : Hid _ := HG9
                    have HF8 : Hid _ := HF9
                    clear HG9 HF9
                    go_wp2_with fail
                    go_roundw
                    case rel => exact ⟨k + 1, by omega, by go_num, HG8, HF8⟩
                    case measure => simp [intOf]; omega
                  · have hcz : ¬ (co : Int) < (lf : Int) + 1 := by omega
                    have HV : Hid (res = lf + 1) := by
                      rw [u8_eq, decide_eq_true_eq] at h3
                      rw [Hid, HX, decide_eq_true h3, nx_eq]
                      rw [if_pos hlt2, if_neg hcl]
                    clear HX
                    go_wp2_with fail
                    go_region
                    generalize hwq : World.drew _ = w9
                    obtain ⟨⟨HG9, HF9⟩, ⟨o9, d9⟩, d8⟩ := HPU.out w9 (by rw [← hwq]; exact (Below.refl _ wr).drew) (lf + 1) HV.out.symm
                    rw [show ((lf + 1 : Nat) : Int) = (lf : Int) + 1 by omega] at HG9 HF9
                    have c9 : w9.cell? ⟨g, k, none⟩ = some (.int .i64 co) := keep_cell (by rw [← hwq]; exact (Below.refl _ wr).drew) c3; clear hwq HPU d3 d4 c1 c2 c3
                    have HG8 : Hid _ := HG9
                    have HF8 : Hid _ := HF9
                    clear HG9 HF9
                    go_wp2_with fail
                    go_roundw
                    case rel => exact ⟨k + 1, by omega, by go_num, HG8, HF8⟩
                    case measure => simp [intOf]; omega
                case false =>
                  have HV : Hid (res = lf + 1) := by
                    rw [u8_eq, decide_eq_false_iff_not] at h3
                    rw [Hid, HX, decide_eq_false h3, nx_ne]
                    rw [if_pos hlt2]
                  clear HX
                  go_wp2_with fail
                  go_region
                  generalize hwq : World.drew _ = w9
                  obtain ⟨⟨HG9, HF9⟩, ⟨o9, d9⟩, d8⟩ := HPU.out w9 (by rw [← hwq]; exact (Below.refl _ wr).drew) (lf + 1) HV.out.symm
                  rw [show ((lf + 1 : Nat) : Int) = (lf : Int) + 1 by omega] at HG9 HF9
                  have c9 : w9.cell? ⟨g, k, none⟩ = some (.int .i64 co) := keep_cell (by rw [← hwq]; exact (Below.refl _ wr).drew) c3; clear hwq HPU d3 d4 c1 c2 c3
                  have HG8 : Hid _ := HG9
                  have HF8 : Hid _ := HF9
                  clear HG9 HF9
                  go_wp2_with fail
                  go_roundw
                  case rel => exact ⟨k + 1, by omega, by go_num, HG8, HF8⟩
                  case measure => simp [intOf]; omega
              · have hlz : ¬ (lf : Int) + 1 < (up : Int) + 1 := by omega
                cases h3 : ((a[i].toNat : Int) == (b[k].toNat : Int))
                case true =>
                  by_cases hcl : co < up + 1
                  · have hcz : (co : Int) < (up : Int) + 1 := by omega
                    have HV : Hid (res = co) := by
                      rw [u8_eq, decide_eq_true_eq] at h3
                      rw [Hid, HX, decide_eq_true h3, nx_eq]
                      rw [if_neg hlt2, if_pos hcl]
                    clear HX
                    go_wp2_with fail
                    go_region
                    generalize hwq : World.drew _ = w9
                    obtain ⟨⟨HG9, HF9⟩, ⟨o9, d9⟩, d8⟩ := HPU.out w9 (by rw [← hwq]; exact (Below.refl _ wr).drew) (co) HV.out.symm
                    have c9 : w9.cell? ⟨g, k, none⟩ = some (.int .i64 co) := keep_cell (by rw [← hwq]; exact (Below.refl _ wr).drew) c3; clear hwq HPU d3 d4 c1 c2 c3
                    have HG8 : Hid _ := HG9
                    have HF8 : Hid _ := HF9
                    clear HG9 HF9
                    go_wp2_with fail
                    go_roundw
                    case rel => exact ⟨k + 1, by omega, by go_num, HG8, HF8⟩
                    case measure => simp [intOf]; omega
                  · have hcz : ¬ (co : Int) < (up : Int) + 1 := by omega
                    have HV : Hid (res = up + 1) := by
                      rw [u8_eq, decide_eq_true_eq] at h3
                      rw [Hid, HX, decide_eq_true h3, nx_eq]
                      rw [if_neg hlt2, if_neg hcl]
                    clear HX
                    go_wp2_with fail
                    go_region
                    generalize hwq : World.drew _ = w9
                    obtain ⟨⟨HG9, HF9⟩, ⟨o9, d9⟩, d8⟩ := HPU.out w9 (by rw [← hwq]; exact (Below.refl _ wr).drew) (up + 1) HV.out.symm
                    rw [show ((up + 1 : Nat) : Int) = (up : Int) + 1 by omega] at HG9 HF9
                    have c9 : w9.cell? ⟨g, k, none⟩ = some (.int .i64 co) := keep_cell (by rw [← hwq]; exact (Below.refl _ wr).drew) c3; clear hwq HPU d3 d4 c1 c2 c3
                    have HG8 : Hid _ := HG9
                    have HF8 : Hid _ := HF9
                    clear HG9 HF9
                    go_wp2_with fail
                    go_roundw
                    case rel => exact ⟨k + 1, by omega, by go_num, HG8, HF8⟩
                    case measure => simp [intOf]; omega
                case false =>
                  have HV : Hid (res = up + 1) := by
                    rw [u8_eq, decide_eq_false_iff_not] at h3
                    rw [Hid, HX, decide_eq_false h3, nx_ne]
                    rw [if_neg hlt2]
                  clear HX
                  go_wp2_with fail
                  go_region
                  generalize hwq : World.drew _ = w9
                  obtain ⟨⟨HG9, HF9⟩, ⟨o9, d9⟩, d8⟩ := HPU.out w9 (by rw [← hwq]; exact (Below.refl _ wr).drew) (up + 1) HV.out.symm
                  rw [show ((up + 1 : Nat) : Int) = (up : Int) + 1 by omega] at HG9 HF9
                  have c9 : w9.cell? ⟨g, k, none⟩ = some (.int .i64 co) := keep_cell (by rw [← hwq]; exact (Below.refl _ wr).drew) c3; clear hwq HPU d3 d4 c1 c2 c3
                  have HG8 : Hid _ := HG9
                  have HF8 : Hid _ := HF9
                  clear HG9 HF9
                  go_wp2_with fail
                  go_roundw
                  case rel => exact ⟨k + 1, by omega, by go_num, HG8, HF8⟩
                  case measure => simp [intOf]; omega
            · have hkz : ¬ (k : Int) + 1 ≤ (b.size : Int) := by omega
              obtain rfl : k = b.size := by omega
              go_wp2_with fail
              go_roundw
              case rel => exact ⟨i + 1, h, by omega, by go_num, rfl, HG⟩
              case measure => simp [intOf]; omega
        · have hiz : ¬ (i : Int) + 1 ≤ (a.size : Int) := by omega
          obtain rfl : i = a.size := by omega
          have d9 := HF.out.at' (j := b.size) (by omega)
          rw [HPA.out] at d9
          have HBE : Hid (Below w.heap.size w wr) := HF.out.bel
          go_wp2_with fail
          go_ret
          exact ⟨rfl, HBE⟩

end Zq
end Go.Proofs.YtmenknbgmgnfhaaDoor
