/- What the reference's Waits answers: the dots of those that wait, sorted. -/
import Derived.Test.YtnniggjeadlbgaaGreatDoorJm
import Derived.Test.YtnniggjeadlbgaaGreatDoorJd
import Derived.Test.YtnniggjeadlbgaaGreatDoorJe
import Derived.Lib.AppendZeros
import Derived.Deep.DeepCutAuto
namespace Go.Proofs.YtnniggjeadlbgaaGreatDoor
namespace Jn
set_option linter.unusedVariables false
set_option linter.unusedSimpArgs false
open Go.ChangeShapes Go.WideShapes Go.ChangeAt Go.RowKit Cm Ka Kb Na Om Oa Oz Oc Og Oi Hm Ia Ic Idc Ie If Ig Ii Ij Ik Il Im Iq Xa Ja Jm
open La (bel bel_drew errV_zero errV_ne own_ge own_grow own_below Lies)
open Jd (dle_trans sort_uniq)

theorem lt_le {a b : Dt} (h : dlt a b = true) : dle a b = true := by simp [dle, dlt] at *; omega
theorem ins_at {D : List Dt} {d : Dt} {k : Nat} (hk : k ≤ D.length) (hs : D.Pairwise fun a b => dle a b = true) (h1 : ∀ j, k ≤ j → j < D.length → dlt d (D.getD j noneD) = true) (h2 : k = 0 ∨ dlt d (D.getD (k - 1) noneD) = false) : (D.take k ++ d :: D.drop k).Pairwise fun a b => dle a b = true := by
  have hdrop : ∀ y ∈ D.drop k, dle d y = true := fun y hy => by
    obtain ⟨j, hj, e⟩ := List.mem_iff_getElem.1 hy
    rw [List.length_drop] at hj
    have h3 := h1 (k + j) (by omega) (by omega)
    rw [List.getD_eq_getElem?_getD, List.getElem?_eq_getElem (by omega), Option.getD_some] at h3
    rw [List.getElem_drop] at e
    rw [← e]; exact lt_le h3
  have htake : ∀ x ∈ D.take k, dle x d = true := fun x hx => by
    obtain ⟨j, hj, e⟩ := List.mem_iff_getElem.1 hx
    rw [List.length_take] at hj
    rw [List.getElem_take] at e
    rcases h2 with h2 | h2
    · omega
    · rw [List.getD_eq_getElem?_getD, List.getElem?_eq_getElem (by omega), Option.getD_some] at h2
      have h3 : dle D[k - 1] d = true := by unfold dle; rw [h2]; rfl
      rw [← e]
      by_cases hjk : j = k - 1
      · subst hjk; exact h3
      · exact dle_trans _ _ _ (List.pairwise_iff_getElem.1 hs j (k - 1) (by omega) (by omega) (by omega)) h3
  refine List.pairwise_append.2 ⟨hs.sublist (List.take_sublist k D), List.pairwise_cons.2 ⟨hdrop, hs.sublist (List.drop_sublist k D)⟩, fun x hx y hy => ?_⟩
  rcases List.mem_cons.1 hy with rfl | hy
  · exact htake x hx
  · exact dle_trans _ _ _ (htake x hx) (hdrop y hy)
theorem ins_perm {D E : List Dt} {d : Dt} (k : Nat) (h : D.Perm E) : (D.take k ++ d :: D.drop k).Perm (E ++ [d]) := by
  refine List.perm_middle.trans ?_
  rw [List.take_append_drop]
  exact (h.cons d).trans (List.perm_append_singleton d E).symm
theorem take_dots {L : List Ox} {i : Nat} (hi : i < L.length) : (L.take (i + 1)).map (·.1) = (L.take i).map (·.1) ++ [(L.getD i oz).1] := by
  rw [Im.take_next hi, List.map_append]; rfl
theorem dots_cell {w : World} {base g n c : Nat} {D : List Dt} (h : w.ownsRow base 30 2 (.slice (some ⟨g, 0, none⟩) n c) n (flatD D)) : (∀ j u, (flatD D)[j]? = some u → w.cell? ⟨g, j, none⟩ = some u) ∧ ∀ j, j < D.length → w.cell? ⟨g, j * 2, none⟩ = some (.int .i64 (D.getD j noneD).1) ∧ w.cell? ⟨g, j * 2 + 1, none⟩ = some (.int .i64 (D.getD j noneD).2) := by
  have hc : ∀ j u, (flatD D)[j]? = some u → w.cell? ⟨g, j, none⟩ = some u := fun j u hu => by
    have := h.cells (g := g) rfl j u hu
    rw [Addr.add_lit, Nat.zero_add] at this
    exact this
  refine ⟨hc, fun j hj => ?_⟩
  obtain ⟨f1, f2⟩ := flatD_at hj
  exact ⟨hc _ _ f1, hc _ _ f2⟩
theorem flatD_take2 (D : List Dt) (k : Nat) : ∀ (j : Nat) (u : Value), (flatD (D.take k))[j]? = some u → (flatD D)[j]? = some u := by
  intro j u hu
  have e : flatD D = flatD (D.take k) ++ flatD (D.drop k) := by rw [← flatD_append, List.take_append_drop]
  rw [e, List.getElem?_append_left (List.getElem?_eq_some_iff.1 hu).1]; exact hu
theorem flatD_drop2 (D : List Dt) (k : Nat) (hk : k ≤ D.length) : ∀ (j : Nat) (u : Value), (flatD (D.drop k))[j]? = some u → (flatD D)[k * 2 + j]? = some u := by
  intro j u hu
  have e : flatD D = flatD (D.take k) ++ flatD (D.drop k) := by rw [← flatD_append, List.take_append_drop]
  have hl : (flatD (D.take k)).length = k * 2 := by rw [flatD_length, List.length_take]; omega
  rw [e, List.getElem?_append_right (by omega), hl, show k * 2 + j - k * 2 = j by omega]; exact hu
theorem info29 : (Tryz.prog.info? 30).map (fun i => (i.zero, i.size, i.bytes)) = some (some (.agg #[.int .i64 0, .int .i64 0]), 2, 16) := by kernel_rfl

set_option maxRecDepth 100000 in
set_option maxHeartbeats 8000000 in
theorem rwaits_any (B Q E : Nat) (S : Dq) (L : List Ox) (H : Nat → Prop) (w : World) (h : RBAt B w Q E S L H) :
    Calls Tryz.prog 43 #[.pointer (some ⟨Q, 0, none⟩)] w fun e w' => ∃ v, e = .returned v ∧ DtsAt w' v (waits L) ∧ Below w.heap.size w w' := by
  obtain ⟨i0, hi, hz0, hz1, hz2⟩ := info_parts info29
  obtain ⟨vL, M, F, m, hM, _⟩ := h
  obtain ⟨p, N, c, rfl, HNL⟩ := own_shape m.row
  have HM : Hid (RB B w Q E (.slice p N c) S M F) := m
  have HL : Hid (M.map (·.1) = L) := hM
  have HLN : Hid (L.length = N) := by unfold Hid; rw [← hM, List.length_map, HNL.out]
  have hN4 : N ≤ 400 := by have := m.wt.few; rw [List.length_map] at this; have := HNL.out; omega
  clear m hM
  go_enter Tryz.func43, Tryz.ntmps43
  go_wp2_with fail
  go_loopw [3, 4] (fun vo vi wr => ∃ (i n2 c2 : Nat) (p2 : Option Addr) (D : List Dt), i ≤ N ∧ vo = .slice p2 n2 c2 ∧ vi = .int .i64 i ∧ n2 = i ∧ Hid (n2 = 0 → p2 = none ∧ c2 = 0) ∧ Hid (wr.ownsRow w.heap.size 30 2 (.slice p2 n2 c2) i (flatD D)) ∧ Hid (D.Perm ((L.take i).map (·.1)) ∧ D.Pairwise fun a b => dle a b = true) ∧ Hid (Below w.heap.size w wr)) (fun _ vi _ => N - (intOf vi).toNat)
  case atStart => exact ⟨0, 0, 0, none, [], by omega, rfl, rfl, rfl, fun _ => ⟨rfl, rfl⟩, World.ownsRow_nil _ _ _ _, ⟨List.Perm.refl _, List.Pairwise.nil⟩, Below.refl _ _⟩
  case round =>
    obtain ⟨i, n2, c2, p2, D, hiN, rfl, rfl, rfl, HNIL, HR, HPS, HBk⟩ := hrel
    have HMk : Hid (RB B wr Q E (.slice p N c) S M F) := HM.out.below HBk.out
    have b1 := blk_cell HMk.out.blk (i := 1) (u := .slice p N c) rfl
    have HDL : Hid (D.length = n2) := by
      have := HPS.out.1.length_eq
      rw [List.length_map, List.length_take, HLN.out] at this
      unfold Hid; omega
    by_cases hlt : n2 < N
    · have hltz : (n2 : Int) < N := by omega
      obtain ⟨g, rfl⟩ : ∃ g, p = some ⟨g, 0, none⟩ := by
        rcases HMk.out.row.shape with ⟨e, e2⟩ | ⟨g9, c9, e, _⟩
        · injection e with _ e _; omega
        · injection e with e _ _; exact ⟨g9, e⟩
      have hiM : n2 < M.length := by rw [← HNL.out]; exact hlt
      obtain ⟨d0, d1⟩ := row_dot HMk.out.row hiM
      rw [HL.out] at d0 d1
      obtain ⟨x, hx⟩ : ∃ x, x = (L.getD n2 oz).1 := ⟨_, rfl⟩
      rw [← hx] at d0 d1
      have HX : Hid ((L.take (n2 + 1)).map (·.1) = (L.take n2).map (·.1) ++ [x]) := by unfold Hid; rw [take_dots (by rw [HLN.out]; exact hlt), hx]
      obtain ⟨xa, xb⟩ := x
      simp only at d0 d1
      have HBA : Hid (Below wr.heap.size wr (wr.alloc (.cells #[.int .i64 xa, .int .i64 xb] 30))) := Je.below_a wr _
      have HBX : Hid ((wr.alloc (.cells #[.int .i64 xa, .int .i64 xb] 30)).heap[wr.heap.size]? = some (.cells #[.int .i64 xa, .int .i64 xb] 30)) := heap_alloc_new wr _
      clear hx hiM
      go_wp2_with fail
      generalize hW : wr.alloc (.cells #[.int .i64 xa, .int .i64 xb] 30) = W1 at HBA HBX ⊢
      have HR1 : Hid (W1.ownsRow w.heap.size 30 2 (.slice p2 n2 c2) n2 (flatD D)) := own_below HR.out HBA.out
      have HB1 : Hid (Below w.heap.size w W1) := bel HBk.out HBA.out
      generalize hbx : wr.heap.size = bx at HBX ⊢
      clear hW d0 d1 b1 hbx HR HBk HMk HBA
      go_loopw [6] (fun vk wx => ∃ (k : Nat), k ≤ n2 ∧ vk = .int .i64 k ∧ Hid (∀ j, k ≤ j → j < D.length → dlt (xa, xb) (D.getD j noneD) = true) ∧ Hid (Below W1.heap.size W1 wx)) (fun vk _ => (intOf vk).toNat)
      case atStart => exact ⟨n2, Nat.le_refl _, rfl, fun j h1 h2 => by have := HDL.out; omega, Below.refl _ _⟩
      case round =>
        obtain ⟨k, hk, rfl, HGE, HBx⟩ := hrel
        have HRx : Hid (wr.ownsRow w.heap.size 30 2 (.slice p2 n2 c2) n2 (flatD D)) := own_below HR1.out HBx.out
        have HBXx : Hid (wr.heap[bx]? = some (.cells #[.int .i64 xa, .int .i64 xb] 30)) := (HBx.out.block _ (Array.getElem?_eq_some_iff.1 HBX.out).1).trans HBX.out
        have x0 := blk_cell HBXx.out (i := 0) (u := .int .i64 xa) rfl
        have x1 := blk_cell HBXx.out (i := 1) (u := .int .i64 xb) rfl
        go_upto_region 7 with fail
        go_cut [61] from 27 to 63 (fun s61 wx => ∃ t : Bool, s61 = .bool t ∧ Hid (t = (decide (0 < k) && dlt (xa, xb) (D.getD (k - 1) noneD))) ∧ Hid (Below W1.heap.size W1 wx))
        case first =>
          by_cases hk0 : 0 < k
          · obtain ⟨j, rfl⟩ : ∃ j, k = j + 1 := ⟨k - 1, by omega⟩
            obtain ⟨g2, rfl⟩ : ∃ g2, p2 = some ⟨g2, 0, none⟩ := by
              rcases HRx.out.2 with ⟨e, e2⟩ | ⟨g9, c9, cur, e, _⟩
              · omega
              · injection e with e _ _; exact ⟨g9, e⟩
            have hjD : j < D.length := by rw [HDL.out]; omega
            obtain ⟨y0, y1⟩ := (dots_cell HRx.out).2 j hjD
            obtain ⟨y, hy⟩ : ∃ y, y = D.getD j noneD := ⟨_, rfl⟩
            rw [← hy] at y0 y1
            have HT : Hid ((decide (0 < j + 1) && dlt (xa, xb) (D.getD (j + 1 - 1) noneD)) = dlt (xa, xb) y) := by unfold Hid; rw [hy]; simp
            obtain ⟨ya, yb⟩ := y
            simp only at y0 y1
            have hjz : (j : Int) + 1 ≤ n2 := by omega
            clear hy hjD hk0
            by_cases h1 : xa < ya
            · have HV : Hid (true = (decide (0 < j + 1) && dlt (xa, xb) (D.getD (j + 1 - 1) noneD))) := by unfold Hid; rw [HT.out]; simp [dlt, h1]
              go_wp2_with fail
              go_quiet (fail)
              generalize hwq : World.drewN _ _ = wq
              have HBq : Hid (Below W1.heap.size W1 wq) := by unfold Hid; rw [← hwq]; exact bel_drew HBx.out _
              clear hwq
              go_wp2_with fail
              go_meet
              case rel => exact ⟨true, by first | rfl | (simp; omega), HV, HBq⟩
            · by_cases h2 : ya = xa
              · subst h2
                by_cases h3 : xb < yb
                · have HV : Hid (true = (decide (0 < j + 1) && dlt (ya, xb) (D.getD (j + 1 - 1) noneD))) := by unfold Hid; rw [HT.out]; simp [dlt, h3]
                  clear h1
                  go_wp2_with fail
                  go_quiet (fail)
                  generalize hwq : World.drewN _ _ = wq
                  have HBq : Hid (Below W1.heap.size W1 wq) := by unfold Hid; rw [← hwq]; exact bel_drew HBx.out _
                  clear hwq
                  go_wp2_with fail
                  go_meet
                  case rel => exact ⟨true, by first | rfl | (simp; omega), HV, HBq⟩
                · have HV : Hid (false = (decide (0 < j + 1) && dlt (ya, xb) (D.getD (j + 1 - 1) noneD))) := by unfold Hid; rw [HT.out]; simp [dlt]; omega
                  clear h1
                  go_wp2_with fail
                  go_quiet (fail)
                  generalize hwq : World.drewN _ _ = wq
                  have HBq : Hid (Below W1.heap.size W1 wq) := by unfold Hid; rw [← hwq]; exact bel_drew HBx.out _
                  clear hwq
                  go_wp2_with fail
                  go_meet
                  case rel => exact ⟨false, by first | rfl | (simp; omega), HV, HBq⟩
              · have HV : Hid (false = (decide (0 < j + 1) && dlt (xa, xb) (D.getD (j + 1 - 1) noneD))) := by unfold Hid; rw [HT.out]; simp [dlt]; omega
                have h2b : (ya == xa) = false := by simpa using h2
                have h5 : decide (xa < ya) = false := decide_eq_false h1
                clear h2 h1
                go_wp2_with fail
                go_quiet (fail)
                generalize hwq : World.drewN _ _ = wq
                have HBq : Hid (Below W1.heap.size W1 wq) := by unfold Hid; rw [← hwq]; exact bel_drew HBx.out _
                clear hwq
                go_wp2_with fail
                go_meet
                case rel => exact ⟨false, by first | rfl | (simp; omega), HV, HBq⟩
          · have HV : Hid (false = (decide (0 < k) && dlt (xa, xb) (D.getD (k - 1) noneD))) := by unfold Hid; simp [hk0]
            obtain rfl : k = 0 := by omega
            clear hk0
            go_wp2_with fail
            go_quiet (fail)
            generalize hwq : World.drewN _ _ = wq
            have HBq : Hid (Below W1.heap.size W1 wq) := by unfold Hid; rw [← hwq]; exact bel_drew HBx.out _
            clear hwq
            go_wp2_with fail
            go_meet
            case rel => exact ⟨false, by first | rfl | (simp; omega), HV, HBq⟩
        case rest =>
        clear HBXx x0 x1 HRx HBx
        obtain ⟨t, rfl, HT, HBx⟩ := hcut
        have HRx : Hid (wc.ownsRow w.heap.size 30 2 (.slice p2 n2 c2) n2 (flatD D)) := own_below HR1.out HBx.out
        have HBXx : Hid (wc.heap[bx]? = some (.cells #[.int .i64 xa, .int .i64 xb] 30)) := (HBx.out.block _ (Array.getElem?_eq_some_iff.1 HBX.out).1).trans HBX.out
        cases t
        case true =>
          have h9 := HT.out
          simp only [Bool.true_eq, Bool.and_eq_true, decide_eq_true_eq] at h9
          obtain ⟨j, rfl⟩ : ∃ j, k = j + 1 := ⟨k - 1, by omega⟩
          have HGE2 : Hid (∀ i, j ≤ i → i < D.length → dlt (xa, xb) (D.getD i noneD) = true) := fun i h1 h2 => by
            by_cases e : i = j
            · rw [e]; exact h9.2
            · exact HGE.out i (by omega) h2
          clear h9
          go_wp2_with fail
          go_roundw
          case rel => exact ⟨j, by omega, by go_num, HGE2, HBx⟩
          case measure => simp [intOf]
        case false =>
          have HH2 : Hid (k = 0 ∨ dlt (xa, xb) (D.getD (k - 1) noneD) = false) := by
            have h9 := HT.out
            by_cases e : k = 0
            · exact Or.inl e
            · right
              rw [decide_eq_true (by omega), Bool.true_and] at h9
              exact h9.symm
          have HPS2 : Hid ((D.take k ++ (xa, xb) :: D.drop k).Perm ((L.take (n2 + 1)).map (·.1)) ∧ (D.take k ++ (xa, xb) :: D.drop k).Pairwise fun a b => dle a b = true) := ⟨by rw [HX.out]; exact ins_perm k HPS.out.1, ins_at (by rw [HDL.out]; exact hk) HPS.out.2 HGE.out HH2.out⟩
          have HBW : Hid (Below w.heap.size w wc) := bel HB1.out HBx.out
          have HLQ : Hid ((D.take k).length = k ∧ (D.drop k).length = n2 - k) := ⟨by rw [List.length_take, HDL.out]; omega, by rw [List.length_drop, HDL.out]⟩
          clear HT HH2 HGE
          by_cases hn0 : n2 = 0
          · subst hn0
            obtain ⟨rfl, rfl⟩ := HNIL.out rfl
            obtain rfl : k = 0 := by omega
            have hD0 : D = [] := List.eq_nil_of_length_eq_zero HDL.out
            subst hD0
            have hap := fun W => run_append_owned_none (P := Tryz.prog) (w := W) w.heap.size 31 31 30 i0 2 Tryz.underlying31 hi (.slice none 0 0) 0 [] (World.ownsRow_nil W _ _ _)
            have x0 := blk_cell HBXx.out (i := 0) (u := .int .i64 xa) rfl
            have x1 := blk_cell HBXx.out (i := 1) (u := .int .i64 xb) rfl
            go_wp2_with (first
              | (at_builtin; refine Lib.wpList_append_run _ rfl (.tmp 64) (.tmp 67) _ _ rfl _ _ rfl rfl _ _ (hap _) ?_)
              | (at_builtin; refine wpList_append_own_at _ rfl (.tmp 69) (.tmp 71) 31 rfl w.heap.size 30 i0 (.agg #[.int .i64 0, .int .i64 0]) 2 16 Tryz.underlying31 hi hz0 hz1 hz2 rfl (by decide) (.slice none 0 0) 0 [] rfl (World.ownsRow_nil _ _ _ _) ⟨wc.heap.size, 0, none⟩ 1 1 [.int .i64 xa, .int .i64 xb] rfl rfl (Jc.two_new wc xa xb _) (by simp [Value.oneCell']) (by unfold maxLen; omega) (by omega) (by have := HBW.out.size; simp; omega) ?_; intro v9 w9 hown9 hgrow9 _ hat9; obtain ⟨p9, n9, c9, rfl, HN9⟩ := own_shape hown9; obtain rfl : n9 = 1 := HN9.out; have HO9 : Hid (w9.ownsRow w.heap.size 30 2 (.slice p9 1 c9) 1 (flatD [(xa, xb)])) := hown9; have HB9 : Hid (Below w.heap.size w w9) := (HBW.out.alloc HBW.out.size _).grown hgrow9 (by have := HBW.out.size; simp; omega) (by intro j hj; cases hj); have hap2 := run_append_owned_none (P := Tryz.prog) (w := w9) w.heap.size 31 31 30 i0 2 Tryz.underlying31 hi (.slice p9 1 c9) _ _ HO9.out; clear hown9 hgrow9 hat9)
              | (at_builtin; refine Lib.wpList_append_run _ rfl (.tmp 73) (.tmp 76) _ _ rfl _ _ rfl rfl _ _ hap2 ?_))
            go_roundw
            case rel => exact ⟨1, 1, c9, p9, [(xa, xb)], by omega, rfl, by go_num, rfl, fun h => absurd h (by decide), HO9, HPS2, HB9⟩
            case measure => simp [intOf]; omega
          · obtain ⟨g2, rfl⟩ : ∃ g2, p2 = some ⟨g2, 0, none⟩ := by
              rcases HRx.out.2 with ⟨e, e2⟩ | ⟨g9, c9, cur, e, _⟩
              · omega
              · injection e with e _ _; exact ⟨g9, e⟩
            have HCC : Hid (n2 ≤ c2 ∧ c2 ≤ maxLen) := by
              rcases HRx.out.2 with ⟨e, e2⟩ | ⟨g9, c9, cur, e, _, _, h1, h2, _⟩
              · cases e
              · injection e with _ e3 e4; rw [e4]; exact ⟨h1, h2⟩
            have HCL := (dots_cell HRx.out).1
            have HCT : Hid (∀ (j : Nat) (u : Value), (flatD (D.take k))[j]? = some u → wc.cell? ((⟨g2, 0, none⟩ : Addr).add j) = some u) := fun j u hu => by rw [Addr.add_lit, Nat.zero_add]; exact HCL j u (flatD_take2 D k j u hu)
            obtain ⟨ad, had⟩ : ∃ ad, (if c2 = k then some (⟨g2, 0, none⟩ : Addr) else some ⟨g2, k * 2, none⟩) = some ad := by
              by_cases e : c2 = k
              · exact ⟨⟨g2, 0, none⟩, by rw [if_pos e]⟩
              · exact ⟨⟨g2, k * 2, none⟩, by rw [if_neg e]⟩
            have HCD : Hid (∀ W, Below wc.heap.size wc W → ∀ (j : Nat) (u : Value), (flatD (D.drop k))[j]? = some u → W.cell? (ad.add j) = some u) := fun W hb j u hu => by
              by_cases e : c2 = k
              · have hz : D.drop k = [] := List.drop_of_length_le (by rw [HDL.out]; have := HCC.out.1; omega)
                rw [hz] at hu; simp [flatD] at hu
              · rw [if_neg e] at had
                injection had with had
                rw [← had, Addr.add_lit]
                exact Nc.keep_cell hb (HCL _ u (flatD_drop2 D k (by rw [HDL.out]; exact hk) j u hu))
            have hkc : (k : Int) ≤ c2 := by have := HCC.out.1; omega
            have hkn : (k : Int) ≤ n2 := by omega
            have hcm9 : c2 ≤ 9223372036854775807 := by have := HCC.out.2; unfold maxLen at this; omega
            clear HCL
            go_wp2_with (first
              | (at_builtin; refine wpList_append_own_at _ rfl (.tmp 64) (.tmp 67) 31 rfl w.heap.size 30 i0 (.agg #[.int .i64 0, .int .i64 0]) 2 16 Tryz.underlying31 hi hz0 hz1 hz2 rfl (by decide) (.slice none 0 0) 0 [] rfl (World.ownsRow_nil _ _ _ _) ⟨g2, 0, none⟩ k c2 (flatD (D.take k)) rfl (by rw [flatD_length, HLQ.out.1]) HCT.out (flatD_one _) (by unfold maxLen; omega) (by omega) HBW.out.size ?_; intro v9 w9 hown9 hgrow9 _ hat9; obtain ⟨p9, n9, c9, rfl, _⟩ := own_shape hown9; have HO9 : Hid (w9.ownsRow w.heap.size 30 2 (.slice p9 n9 c9) k (flatD (D.take k))) := (by have h9 := hown9; rw [Nat.zero_add, List.nil_append] at h9; exact h9); have HB9 : Hid (Below wc.heap.size wc w9) := ⟨hgrow9.os, hgrow9.tape, hgrow9.output, hgrow9.size, fun j hj => hgrow9.block j hj (by intro e; cases e)⟩; have HAT9 : Hid (∀ g, (Value.slice p9 n9 c9).ownBlock = some g → wc.heap.size ≤ g) := (by intro g hg; rcases hat9 with e9 | e9; (rw [hg] at e9; cases e9); (rw [hg] at e9; injection e9 with e9; omega)); have HBX9 : Hid (w9.heap[bx]? = some (.cells #[.int .i64 xa, .int .i64 xb] 30)) := (HB9.out.block _ (Array.getElem?_eq_some_iff.1 HBXx.out).1).trans HBXx.out; have x0 := blk_cell HBX9.out (i := 0) (u := .int .i64 xa) rfl; have x1 := blk_cell HBX9.out (i := 1) (u := .int .i64 xb) rfl; have HOA : Hid (∀ O, (w9.alloc O).ownsRow w.heap.size 30 2 (.slice p9 n9 c9) k (flatD (D.take k))) := (fun O => own_below HO9.out (Je.below_a w9 O)); clear hown9 hgrow9 hat9)
              | (at_builtin; refine wpList_append_own_at _ rfl (.tmp 69) (.tmp 71) 31 rfl w.heap.size 30 i0 (.agg #[.int .i64 0, .int .i64 0]) 2 16 Tryz.underlying31 hi hz0 hz1 hz2 rfl (by decide) (.slice p9 n9 c9) k (flatD (D.take k)) rfl (HOA.out _) ⟨w9.heap.size, 0, none⟩ 1 1 [.int .i64 xa, .int .i64 xb] rfl rfl (Jc.two_new w9 xa xb _) (by simp [Value.oneCell']) (by unfold maxLen; omega) (by omega) (by have := HBW.out.size; have := HB9.out.size; simp; omega) ?_; intro v10 w10 hown10 hgrow10 _ hat10; obtain ⟨p10, n10, c10, rfl, _⟩ := own_shape hown10; have HO10 : Hid (w10.ownsRow w.heap.size 30 2 (.slice p10 n10 c10) (k + 1) (flatD (D.take k ++ [(xa, xb)]))) := (by unfold Hid; rw [Jc.flatD_snoc]; exact hown10); have HB10 : Hid (Below wc.heap.size wc w10) := ((HB9.out.alloc HB9.out.size _).grown hgrow10 (by have := HB9.out.size; simp; omega) HAT9.out); have HAT10 : Hid (∀ g, (Value.slice p10 n10 c10).ownBlock = some g → wc.heap.size ≤ g) := (by intro g hg; rcases hat10 with e9 | e9; (exact HAT9.out g (e9 ▸ hg)); (rw [hg] at e9; injection e9 with e9; have := HB9.out.size; simp at e9; omega)); have HCD10 := HCD.out w10 HB10.out; clear hown10 hgrow10 hat10)
              | (at_builtin; refine wpList_append_own_at _ rfl (.tmp 73) (.tmp 76) 31 rfl w.heap.size 30 i0 (.agg #[.int .i64 0, .int .i64 0]) 2 16 Tryz.underlying31 hi hz0 hz1 hz2 rfl (by decide) (.slice p10 n10 c10) (k + 1) (flatD (D.take k ++ [(xa, xb)])) rfl HO10.out ad (n2 - k) (c2 - k) (flatD (D.drop k)) rfl (by rw [flatD_length, HLQ.out.2]) HCD10 (flatD_one _) (by unfold maxLen; omega) (by omega) (Nat.le_trans HBW.out.size HB10.out.size) ?_; intro v11 w11 hown11 hgrow11 _ hat11; obtain ⟨p11, n11, c11, rfl, HN11⟩ := own_shape hown11; have HO11 : Hid (w11.ownsRow w.heap.size 30 2 (.slice p11 n11 c11) (n2 + 1) (flatD (D.take k ++ (xa, xb) :: D.drop k))) := (by unfold Hid; have h9 := hown11; rw [← flatD_append, List.append_assoc, show k + 1 + (n2 - k) = n2 + 1 by omega] at h9; exact h9); have HB11 : Hid (Below w.heap.size w w11) := own_grow HO10.out (bel HBW.out HB10.out) hgrow11 (Nat.le_trans HBW.out.size HB10.out.size); have HN11' : Hid (n11 = n2 + 1) := (by have := HN11.out; unfold Hid; omega); clear hown11 hgrow11 hat11 HN11))
            obtain rfl : n11 = n2 + 1 := HN11'.out
            go_roundw
            case rel => exact ⟨n2 + 1, n2 + 1, c11, p11, D.take k ++ (xa, xb) :: D.drop k, by omega, rfl, by go_num, rfl, fun h => absurd h (by omega), HO11, HPS2, HB11⟩
            case measure => simp [intOf]; omega
    · have hltz : ¬ (n2 : Int) < N := by omega
      have HF : Hid (D = waits L) := by
        have h9 := HPS.out.1
        rw [List.take_of_length_le (by rw [HLN.out]; omega)] at h9
        exact sort_uniq h9 HPS.out.2
      go_wp2_with fail
      go_ret
      exact ⟨_, rfl, by rw [← HF.out]; exact own_dts HR.out, HBk.out⟩

end Jn
end Go.Proofs.YtnniggjeadlbgaaGreatDoor
