/- What the reference says of stretches: Stretches, of a book whose slice is nil, and of any. (The first theorem is Sc's, word for word, with `none` for the address.) -/
import Derived.Test.YtllcmfbkingfdaaDoorSc
namespace Go.Proofs.YtllcmfbkingfdaaDoor
namespace Sk
set_option linter.unusedVariables false
open Go.ChangeShapes Go.WideShapes Go.ChangeAt Go.RowKit Cm Ka Kb Na Sm Sb Sc
open La (bel bel_drew errV_zero errV_ne own_ge own_grow own_below LeafsIn)
open Bm (Leaf ahd bookE text)

set_option maxRecDepth 100000 in
set_option maxHeartbeats 4000000 in
theorem stretches_none (n c : Nat) (l : List Leaf) (u : Value) (m : List Mk) (w : World) (hl : l.length = n) (hnc : n ≤ c) (hcm : c ≤ maxLen) (h1 : LeafsIn w none l) (hb : bookE l = 0) (h2 : MksAt w u m) (hm : marksE m = 0) :
    Calls Tryd.prog 12 #[.slice none n c, u] w fun e w' => ∃ v', e = .returned v' ∧ MksAt w' v' (stretches l m) ∧ Below w.heap.size w w' := by
  obtain ⟨qm, cm, rfl, hmi, _⟩ := h2
  obtain ⟨nm, hnm⟩ : ∃ nm, nm = m.length := ⟨_, rfl⟩
  have hm40 : nm ≤ 40 := by rw [hnm]; exact (marksE_zero.1 hm).1
  rw [← hnm]
  have HN : Hid (m.length = nm) := hnm.symm
  have HMI : Hid (MarksIn w qm m) := hmi
  have hok := Lf.book_ok hb
  have HB0 : Hid (Below w.heap.size w (w.alloc (.cells #[.string ⟨#[]⟩, .int .i64 0, .int .i64 0] 45))) := (Below.refl _ w).alloc (Nat.le_refl _) _
  have HO0 : Hid ((w.alloc (.cells #[.string ⟨#[]⟩, .int .i64 0, .int .i64 0] 45)).ownsRow w.heap.size 45 3 (.slice (some ⟨w.heap.size, 0, none⟩) 1 1) (bare l (heads (m.take 0))).length (flat (bare l (heads (m.take 0))))) := one_own w l
  have CA : Hid (∀ W p, Below w.heap.size w W → Calls Tryd.prog 33 #[.slice none n c, .string p] W fun e w' => e = .returned (.int .i64 (ahd l p.toList)) ∧ w' = W) := fun W p hb => Mb.ahead_ref none n c l p W hl (h1.below hb) (by have := hok.1; omega)
  have CT : Hid (∀ W (k : Nat), k ≤ n → Below w.heap.size w W → Calls Tryd.prog 17 #[.slice none k c] W fun e w' => e = .returned (.string ⟨(text (l.take k)).toArray⟩) ∧ Below W.heap.size W w') := fun W k hk hb => Mb.text_ref none k c (l.take k) W (by rw [List.length_take]; omega) (take_in (h1.below hb) k) (fun x hx => hok.2.2 x (List.mem_of_mem_take hx)) (by have := hok.1; omega)
  have HAL : Hid (∀ p : ByteArray, ahd l p.toList ≤ n) := fun p => by rw [← hl]; exact Bm.ahead_le hok.2.1
  have HLEN : Hid (∀ k, (heads (m.take k)).length ≤ 41) := fun k => by
    have : ∀ (l : List Mk), (placesL l).length ≤ l.length := by
      intro l
      induction l with
      | nil => simp [placesL]
      | cons a l ih => cases l with
        | nil => simp [placesL]
        | cons b l => rw [placesL]; split <;> simp at ih ⊢ <;> omega
    have h9 := this (m.take k)
    rw [List.length_take] at h9
    simp [heads]; omega
  have hcm2 : c ≤ 9223372036854775807 := by unfold maxLen at hcm; omega
  clear hmi hnm hok
  go_enter Tryd.func12, Tryd.ntmps12
  go_wp2_with fail
  go_loopw [5, 6] (fun vd vi wr => ∃ (k : Nat), k ≤ nm ∧ vi = .int .i64 k ∧ (∃ p N c, vd = .slice p N c) ∧ Hid (wr.ownsRow w.heap.size 45 3 vd (bare l (heads (m.take k))).length (flat (bare l (heads (m.take k))))) ∧ Hid (Below w.heap.size w wr)) (fun _ vi _ => nm - (intOf vi).toNat)
  case atStart => exact ⟨0, by omega, rfl, ⟨_, _, _, rfl⟩, HO0, HB0⟩
  case round =>
    clear HB0 HO0
    obtain ⟨k, hk, rfl, ⟨pd, nd, cd, rfl⟩, HO, HBk⟩ := hrel
    by_cases hlt : k < nm
    · have hltz : (k : Int) < nm := by omega
      have hkl : k < m.length := by rw [HN.out]; exact hlt
      obtain ⟨bo, oo, rfl, hc⟩ := HMI.out.some (by intro e; rw [e] at hkl; simp at hkl)
      have ha := (hc k hkl).below HBk.out (hc k hkl).lt
      have hbo : bo < w.heap.size := (hc k hkl).lt
      obtain ⟨x, hx⟩ : ∃ x, x = m.getD k none1 := ⟨_, rfl⟩
      have HMK : Hid (m[k]? = some x) := by unfold Hid; rw [hx, List.getD_eq_getElem?_getD, List.getElem?_eq_getElem hkl]; rfl
      rw [← hx] at ha
      obtain ⟨sx, x1, x2⟩ := x
      obtain ⟨a1, a2, a3⟩ := ha
      simp only at a1 a2 a3
      by_cases hk0 : k = 0
      · subst hk0
        have HNX : Hid (bare l (heads (m.take (0 + 1))) = bare l (heads (m.take 0)) ++ [(sx, ((cutF l sx : Int), (0 : Int)))]) := by
          unfold Hid; rw [heads_one m HMK.out]; exact bare_snoc l [ByteArray.empty] sx
        rw [Nat.zero_mul, Nat.add_zero] at a1
        have hS0 : w.cell? ⟨bo, oo, none⟩ = some (.string sx) := by have h9 := (hc 0 hkl).1; rw [← hx, Nat.zero_mul, Nat.add_zero] at h9; exact h9
        clear hc hx hkl
        go_wp2_with fail
        go_quiet (fail)
        generalize hwq : World.drewN _ _ = wq
        have HBq : Hid (Below w.heap.size w wq) := by rw [← hwq]; exact bel_drew HBk.out _
        have HOq : Hid (wq.ownsRow w.heap.size 45 3 (.slice pd nd cd) (bare l (heads (m.take 0))).length (flat (bare l (heads (m.take 0))))) := by rw [← hwq]; exact HO.out
        have b1 : wq.cell? ⟨bo, oo, none⟩ = some (.string sx) := by rw [← hwq]; exact a1
        clear hwq a1 a2 a3 HO
        go_wp2_with fail
        refine (CA.out wq sx HBq.out).mono ?_
        rintro e w3 ⟨rfl, rfl⟩
        obtain ⟨i, hi⟩ : ∃ i, i = ahd l sx.toList := ⟨_, rfl⟩
        have hin : i ≤ n := by rw [hi]; exact HAL.out sx
        have HCF : Hid (cutF l sx = (text (l.take i)).length) := by rw [hi]; rfl
        rw [← hi]
        have hiz : (i : Int) ≤ c := by omega
        have hiz2 : (i : Int) ≤ n := by omega
        clear hi
        go_wp2_with fail
        go_region_held3 (fun W => W.cell? ⟨bo, oo, none⟩ = some (.string sx)) (first | (go_keep; done) | (refine keep_cellS hb7 ?_; (first | assumption | (go_split_ands; assumption))) | exact hS9) (first
          | (go_at_call 17; refine (CT.out _ _ hin HBq.out.drew).mono ?_; rintro e w7 ⟨rfl, hb7⟩; have HB7 : Hid (Below w.heap.size w w7) := bel HBq.out.drew hb7; have HO7 : Hid (w7.ownsRow w.heap.size 45 3 (.slice pd nd cd) (bare l (heads (m.take 0))).length (flat (bare l (heads (m.take 0))))) := own_below HOq.out ⟨hb7.os, hb7.tape, hb7.output, hb7.size, hb7.block⟩; have HAB : Hid (∀ O, Below w7.heap.size w7 (w7.alloc O)) := (fun O => (Below.refl _ w7).alloc (Nat.le_refl _) O); have HAO : Hid (∀ O, (w7.alloc O).ownsRow w.heap.size 45 3 (.slice pd nd cd) (bare l (heads (m.take 0))).length (flat (bare l (heads (m.take 0))))) := (fun O => own_below HO7.out (HAB.out O)); have HAS : Hid (∀ O, w.heap.size ≤ (w7.alloc O).heap.size) := (fun O => Nat.le_trans HB7.out.size (HAB.out O).size))
          | (refine step_put3 (by rfl) (.tmp 41) (.tmp 53) (by rfl) w.heap.size (.slice pd nd cd) (bare l (heads (m.take 0))) (sx, (((text (l.take i)).length : Int), (0 : Int))) (by rfl) w7.heap.size (by rfl) (by have h9 := HLEN.out 0; unfold bare; rw [List.length_map]; omega) (HAS.out _) (HAO.out _) (heap_alloc_new w7 _) ?_; intro v9 w9 hr9 hg9 hl9; obtain ⟨p9, n9, c9, rfl⟩ := own_sh hr9; have HO9 : Hid (w9.ownsRow w.heap.size 45 3 (.slice p9 n9 c9) (bare l (heads (m.take (0 + 1)))).length (flat (bare l (heads (m.take (0 + 1)))))) := (by unfold Hid; rw [HNX.out, HCF.out]; exact hr9); have HB9 : Hid (Below w.heap.size w w9) := own_grow HO7.out (bel HB7.out (HAB.out _)) hg9 (HAS.out _); have hS9 : w9.cell? ⟨bo, oo, none⟩ = some (.string sx) := (HB9.out.cell (p := ⟨bo, oo, none⟩) hbo).trans hS0; clear hr9 hg9 hl9))
        clear hb7 hS9
        go_wp2_with fail
        go_roundw
        case rel => exact ⟨0 + 1, by omega, by go_num, ⟨_, _, _, rfl⟩, HO9, HB9⟩
        case measure => simp [intOf]; omega
      · skip
        obtain ⟨k0, hkk⟩ : ∃ k0, k0 + 1 = k := ⟨k - 1, by omega⟩
        have hk0l : k0 < m.length := by omega
        have ha' := (hc k0 hk0l).below HBk.out (hc k0 hk0l).lt
        obtain ⟨y, hy⟩ : ∃ y, y = m.getD k0 none1 := ⟨_, rfl⟩
        have HMY : Hid (m[k0]? = some y) := by unfold Hid; rw [hy, List.getD_eq_getElem?_getD, List.getElem?_eq_getElem hk0l]; rfl
        rw [← hy] at ha'
        obtain ⟨sy, y1, y2⟩ := y
        obtain ⟨d1, d2, d3⟩ := ha'
        simp only at d1 d2 d3
        have HHN : heads (m.take (k + 1)) = if sy.toList = sx.toList then heads (m.take k) else heads (m.take k) ++ [sx] := by
          have h9 := heads_next HMY.out (y := (sx, x1, x2)) (by rw [hkk]; exact HMK.out)
          rw [hkk] at h9; exact h9
        have hS0 : w.cell? ⟨bo, oo + k * 3, none⟩ = some (.string sx) := by have h9 := (hc k hkl).1; rw [← hx] at h9; exact h9
        have hke : ¬ (k = 0) := hk0
        have hkd : decide (k = 0) = false := decide_eq_false hk0
        have hkm : IntKind.i64.wrap ((k : Int) - 1) = (k0 : Int) := by rw [show (k : Int) - 1 = (k0 : Int) by omega]; exact wrap_inS (by omega) (by omega)
        have hkz1 : (k0 : Int) < nm := by omega
        by_cases hxy : sy.toList = sx.toList
        · have HNX : Hid (bare l (heads (m.take (k + 1))) = bare l (heads (m.take k))) := by unfold Hid; rw [HHN, if_pos hxy]
          have hyx : (sx.toList == sy.toList) = true := by simp [hxy]
          clear hc hx hkl hy HHN hk0 hkk hk0l
          go_wp2_with fail
          go_quiet (fail)
          generalize hwq : World.drewN _ _ = wq
          have HBq : Hid (Below w.heap.size w wq) := by rw [← hwq]; exact bel_drew HBk.out _
          have HOq : Hid (wq.ownsRow w.heap.size 45 3 (.slice pd nd cd) (bare l (heads (m.take (k + 1)))).length (flat (bare l (heads (m.take (k + 1)))))) := by rw [← hwq, HNX.out]; exact HO.out
          clear hwq
          go_wp2_with fail
          go_roundw
          case rel => exact ⟨k + 1, by omega, by go_num, ⟨_, _, _, rfl⟩, HOq, HBq⟩
          case measure => simp [intOf]; omega
        · have HNX : Hid (bare l (heads (m.take (k + 1))) = bare l (heads (m.take k)) ++ [(sx, ((cutF l sx : Int), (0 : Int)))]) := by unfold Hid; rw [HHN, if_neg hxy]; exact bare_snoc l _ sx
          have hyx : (sx.toList == sy.toList) = false := by simpa using fun e => hxy e.symm
          clear hc hx hkl hy HHN hk0 hkk hk0l
          go_wp2_with fail
          go_quiet (fail)
          generalize hwq : World.drewN _ _ = wq
          have HBq : Hid (Below w.heap.size w wq) := by rw [← hwq]; exact bel_drew HBk.out _
          have HOq : Hid (wq.ownsRow w.heap.size 45 3 (.slice pd nd cd) (bare l (heads (m.take k))).length (flat (bare l (heads (m.take k))))) := by rw [← hwq]; exact HO.out
          have b1 : wq.cell? ⟨bo, oo + k * 3, none⟩ = some (.string sx) := by rw [← hwq]; exact a1
          clear hwq a1 a2 a3 d1 d2 d3 HO hyx hke hkd hkm
          go_wp2_with fail
          refine (CA.out wq sx HBq.out).mono ?_
          rintro e w3 ⟨rfl, rfl⟩
          obtain ⟨i, hi⟩ : ∃ i, i = ahd l sx.toList := ⟨_, rfl⟩
          have hin : i ≤ n := by rw [hi]; exact HAL.out sx
          have HCF : Hid (cutF l sx = (text (l.take i)).length) := by rw [hi]; rfl
          rw [← hi]
          have hiz : (i : Int) ≤ c := by omega
          have hiz2 : (i : Int) ≤ n := by omega
          clear hi
          go_wp2_with fail
          go_region_held3 (fun W => W.cell? ⟨bo, oo + k * 3, none⟩ = some (.string sx)) (first | (go_keep; done) | (refine keep_cellS hb7 ?_; (first | assumption | (go_split_ands; assumption))) | exact hS9) (first
            | (go_at_call 17; refine (CT.out _ _ hin HBq.out.drew).mono ?_; rintro e w7 ⟨rfl, hb7⟩; have HB7 : Hid (Below w.heap.size w w7) := bel HBq.out.drew hb7; have HO7 : Hid (w7.ownsRow w.heap.size 45 3 (.slice pd nd cd) (bare l (heads (m.take k))).length (flat (bare l (heads (m.take k))))) := own_below HOq.out ⟨hb7.os, hb7.tape, hb7.output, hb7.size, hb7.block⟩; have HAB : Hid (∀ O, Below w7.heap.size w7 (w7.alloc O)) := (fun O => (Below.refl _ w7).alloc (Nat.le_refl _) O); have HAO : Hid (∀ O, (w7.alloc O).ownsRow w.heap.size 45 3 (.slice pd nd cd) (bare l (heads (m.take k))).length (flat (bare l (heads (m.take k))))) := (fun O => own_below HO7.out (HAB.out O)); have HAS : Hid (∀ O, w.heap.size ≤ (w7.alloc O).heap.size) := (fun O => Nat.le_trans HB7.out.size (HAB.out O).size))
            | (refine step_put3 (by rfl) (.tmp 41) (.tmp 53) (by rfl) w.heap.size (.slice pd nd cd) (bare l (heads (m.take k))) (sx, (((text (l.take i)).length : Int), (0 : Int))) (by rfl) w7.heap.size (by rfl) (by have h9 := HLEN.out k; unfold bare; rw [List.length_map]; omega) (HAS.out _) (HAO.out _) (heap_alloc_new w7 _) ?_; intro v9 w9 hr9 hg9 hl9; obtain ⟨p9, n9, c9, rfl⟩ := own_sh hr9; have HO9 : Hid (w9.ownsRow w.heap.size 45 3 (.slice p9 n9 c9) (bare l (heads (m.take (k + 1)))).length (flat (bare l (heads (m.take (k + 1)))))) := (by unfold Hid; rw [HNX.out, HCF.out]; exact hr9); have HB9 : Hid (Below w.heap.size w w9) := own_grow HO7.out (bel HB7.out (HAB.out _)) hg9 (HAS.out _); have hS9 : w9.cell? ⟨bo, oo + k * 3, none⟩ = some (.string sx) := (HB9.out.cell (p := ⟨bo, oo + k * 3, none⟩) hbo).trans hS0; clear hr9 hg9 hl9))
          clear hb7 hS9
          go_wp2_with fail
          go_roundw
          case rel => exact ⟨k + 1, by omega, by go_num, ⟨_, _, _, rfl⟩, HO9, HB9⟩
          case measure => simp [intOf]; omega
    · obtain rfl : k = nm := by omega
      have hltz : ¬ (k : Int) < k := by omega
      have HTK : Hid (m.take k = m) := by rw [Hid, ← HN.out]; exact List.take_length ..
      rw [HTK.out] at HO
      obtain ⟨g, c2, hv, hg2, hc2, hcm3, ht⟩ := T2.start (heads_pos m) HO.out
      obtain ⟨nh, hnh⟩ : ∃ nh, nh = (heads m).length := ⟨_, rfl⟩
      have HNH : Hid (nh = (heads m).length) := hnh
      rw [← hnh] at hv hc2
      injection hv with e1 e2 e3
      subst e1 e2 e3
      have HT0 : Hid (T2 wr g l (heads m) 0) := ht
      have HG2 : Hid (w.heap.size ≤ g ∧ nd ≤ cd ∧ cd ≤ maxLen) := ⟨hg2, hc2, hcm3⟩
      have hn41 : nd ≤ 41 := by have h9 := HLEN.out k; rw [HTK.out] at h9; omega
      have hnz41 : (nd : Int) ≤ 41 := by omega
      have HTL : Hid (l.take n = l) := by rw [Hid, ← hl]; exact List.take_length ..
      clear ht hg2 hc2 hcm3 HO hnh
      go_wp2_with fail
      go_loopw [8] (fun vi wr => ∃ (i : Nat), i ≤ nd ∧ vi = .int .i64 i ∧ Hid (T2 wr g l (heads m) i) ∧ Hid (Below w.heap.size w wr)) (fun vi _ => nd - (intOf vi).toNat)
      case atStart => exact ⟨0, by omega, rfl, HT0, HBk⟩
      case round =>
        obtain ⟨i, hi, rfl, HT, HBi⟩ := hrel
        by_cases hlt : i < nd
        · have hltz2 : (i : Int) < nd := by omega
          have CTn := CT.out wr n (Nat.le_refl _) HBi.out
          rw [HTL.out] at CTn
          obtain ⟨cur, hcur, hcs⟩ := HT.out
          have hih : i < (heads m).length := by rw [← HNH.out]; exact hlt
          obtain ⟨t1, t2, t3⟩ := hcs i hih
          obtain ⟨b0, hb0⟩ : ∃ b0, b0 = beg l (heads m) i := ⟨_, rfl⟩
          obtain ⟨b1, hb1⟩ : ∃ b1, b1 = beg l (heads m) (i + 1) := ⟨_, rfl⟩
          have hb03 : b0 ≤ 300 := by rw [hb0]; have h8 := beg_le l (heads m) i; have h9 := Bm.text_len_le l; have := (Bm.bookE_zero.1 hb).1; omega
          have hb13 : b1 ≤ 300 := by rw [hb1]; have h8 := beg_le l (heads m) (i + 1); have h9 := Bm.text_len_le l; have := (Bm.bookE_zero.1 hb).1; omega
          have HPUT : Hid (T2 (wr.setCell ⟨g, i * 3 + 2, none⟩ (.int .i64 ((b1 : Int) - b0))) g l (heads m) (i + 1)) := by rw [hb0, hb1]; exact HT.out.put hih
          rw [← hb0] at t2
          have hwr : IntKind.i64.wrap ((b1 : Int) - b0) = (b1 : Int) - b0 := wrap_inS (by omega) (by omega)
          by_cases hla : i + 1 < nd
          · have hlaz : (i : Int) + 1 < nd := by omega
            have t4 := (hcs (i + 1) (by rw [← HNH.out]; exact hla)).2.1
            rw [← hb1] at t4
            go_wp2_with fail
            refine CTn.mono ?_
            rintro e w7 ⟨rfl, hb7⟩
            have HB7 : Hid (Below w.heap.size w w7) := bel HBi.out hb7
            have z1 := keep_cellS hb7 (cell_of hcur t2)
            have z4 := keep_cellS hb7 (cell_of hcur t4)
            have z2 := keep_cellS hb7 (cell_of hcur t3)
            have hcur7 : w7.heap[g]? = some (.cells cur 45 (0, 0)) := by rw [hb7.block g (Array.getElem?_eq_some_iff.1 hcur).1]; exact hcur
            have z5 : w7.frozen? ⟨g, i * 3 + 2, none⟩ = false := freeS hcur7
            have HP7 : Hid (T2 w7 g l (heads m) i) := HT.out.below hb7
            have HPP : Hid (T2 (w7.setCell ⟨g, i * 3 + 2, none⟩ (.int .i64 ((beg l (heads m) (i + 1) : Int) - beg l (heads m) i))) g l (heads m) (i + 1)) := HP7.out.put hih
            clear CTn t1 t2 t3 t4 hcs hcur hcur7
            go_wp2_with fail
            refine ⟨⟨i + 1, by omega, by go_num, ?_, ?_⟩, ?_⟩
            · exact HPP.out
            · exact HB7.out.setCell (p := ⟨g, i * 3 + 2, none⟩) HG2.out.1 _
            · simp [intOf]; omega
          · have hlaz : ¬ (i : Int) + 1 < nd := by omega
            have hbe : beg l (heads m) (i + 1) = (text l).length := beg_end l _ (by rw [← HNH.out]; omega)
            rw [hbe] at hb1
            have hwr2 : IntKind.i64.wrap (((text l).length : Int) - b0) = ((text l).length : Int) - b0 := by rw [← hb1]; exact hwr
            go_wp2_with fail
            refine CTn.mono ?_
            rintro e w7 ⟨rfl, hb7⟩
            have HB7 : Hid (Below w.heap.size w w7) := bel HBi.out hb7
            have z1 := keep_cellS hb7 (cell_of hcur t2)
            have z2 := keep_cellS hb7 (cell_of hcur t3)
            have hcur7 : w7.heap[g]? = some (.cells cur 45 (0, 0)) := by rw [hb7.block g (Array.getElem?_eq_some_iff.1 hcur).1]; exact hcur
            have z5 : w7.frozen? ⟨g, i * 3 + 2, none⟩ = false := freeS hcur7
            have HP7 : Hid (T2 w7 g l (heads m) i) := HT.out.below hb7
            have HPP : Hid (T2 (w7.setCell ⟨g, i * 3 + 2, none⟩ (.int .i64 ((beg l (heads m) (i + 1) : Int) - beg l (heads m) i))) g l (heads m) (i + 1)) := HP7.out.put hih
            rw [hbe] at HPP
            clear CTn t1 t2 t3 hcs hcur hcur7
            go_wp2_with fail
            refine ⟨⟨i + 1, by omega, by go_num, ?_, ?_⟩, ?_⟩
            · exact HPP.out
            · exact HB7.out.setCell (p := ⟨g, i * 3 + 2, none⟩) HG2.out.1 _
            · simp [intOf]; omega
        · obtain rfl : i = nd := by omega
          have hltz2 : ¬ (i : Int) < i := by omega
          have HD9 : Hid (MksAt wr (.slice (some ⟨g, 0, none⟩) i cd) (stretches l m)) := by
            have h9 := HT.out
            unfold Hid
            rw [HNH.out] at h9 ⊢
            exact T2.done h9 (by rw [← HNH.out]; exact HG2.out.2.1) HG2.out.2.2
          go_wp2_with fail
          go_ret
          exact ⟨_, rfl, HD9.out, HBi.out⟩

theorem stretches_ref (q : Option Addr) (n c : Nat) (l : List Leaf) (u : Value) (m : List Mk) (w : World) (hl : l.length = n) (hnc : n ≤ c) (hcm : c ≤ maxLen) (h1 : LeafsIn w q l) (hb : bookE l = 0) (h2 : MksAt w u m) (hm : marksE m = 0) :
    Calls Tryd.prog 12 #[.slice q n c, u] w fun e w' => ∃ v', e = .returned v' ∧ MksAt w' v' (stretches l m) ∧ Below w.heap.size w w' := by
  cases q with
  | none => exact stretches_none n c l u m w hl hnc hcm h1 hb h2 hm
  | some ad => exact Sc.stretches_ref ad n c l u m w hl hnc hcm h1 hb h2 hm

end Sk
end Go.Proofs.YtllcmfbkingfdaaDoor
