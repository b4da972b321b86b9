/- The walk of the law DotTells, where the dot is right. -/
import Derived.Test.YtllcmfbkingfdaaGreatDoorTa
namespace Go.Proofs.YtllcmfbkingfdaaGreatDoor
namespace Ta
set_option linter.unusedVariables false
open Go.ChangeShapes Go.WideShapes Go.ChangeAt Go.RowKit Za Db Dc Dd Dg Dh Di Dl Ra Rb Rc Pt Pl

set_option maxHeartbeats 8000000 in
set_option maxRecDepth 100000 in
theorem walk_c6n (pa pb : Option Addr) (na nb ca cb : Nat) (la lb : List Int) (who m : Int) (s : ByteArray) (w : World) (ha : la.length = na) (hb : lb.length = nb) (hna : na ≤ 1048576) (ia : IntsIn w pa la) (ib : IntsIn w pb lb) (hs : s.size ≤ 1048576) (hL : Lib3 w) (hg : ET w)
    (hwe : Dm.withE la who m = 0) (hae : Dm.addE la who m = 6) (hvb : Dm.vecE lb ≠ 0) :
    Calls Tryz.prog 3 #[.slice pa na ca, .slice pb nb cb, .agg #[.int .i64 who, .int .i64 m], .string s] w fun e w' => e = .returned (.bool true) ∧ Below w.heap.size w w' := by
  have hbx : Below w.heap.size w (w.alloc (.cells #[.int .i64 who, .int .i64 m] 24)) := (Below.refl _ w).alloc (Nat.le_refl _) _
  have HBX : Hid (Below w.heap.size w (w.alloc (.cells #[.int .i64 who, .int .i64 m] 24))) := hbx
  have IB : Hid (IntsIn (w.alloc (.cells #[.int .i64 who, .int .i64 m] 24)) pb lb) := ib.below hbx
  have HB : Hid (lb.length = nb) := hb
  have HL : Hid (Lib3 (w.alloc (.cells #[.int .i64 who, .int .i64 m] 24))) := hL.below hbx
  have HG : Hid (ET (w.alloc (.cells #[.int .i64 who, .int .i64 m] 24))) := ET.below hg hbx
  have HS : Hid (s.size ≤ 1048576) := hs
  obtain ⟨hva, hw1, hw8, hm1, hm9⟩ := with_zero hwe
  have HED : Hid (Dm.dotE who m = 0) := Dm.dotE_zero hw1 hw8 hm1 hm9
  have HWE : Hid (Dm.withE la who m = 0) := hwe
  have HAE : Hid (Dm.addE la who m = 6) := hae
  have HAN : Hid (Dm.addE la who m ≠ 0) := by unfold Hid; rw [hae]; decide
  have HVA : Hid (Dm.vecE la = 0) := hva
  have hl8 := (Dm.vecE_zero.1 hva).1
  obtain rfl : na = 8 := by omega
  have HRG : Hid (∀ j, j < 8 → 0 ≤ la.getD j 0 ∧ la.getD j 0 ≤ 9999) := by
    intro j hj
    rw [List.getD_eq_getElem?_getD, List.getElem?_eq_getElem (by omega)]
    exact (Dm.vecE_zero.1 hva).2 _ (List.getElem_mem _)
  obtain ⟨b, o, rfl, hc⟩ := ia.some (by rintro rfl; simp at hl8)
  have HCL : Hid (∀ W, Below (w.alloc (.cells #[.int .i64 who, .int .i64 m] 24)).heap.size (w.alloc (.cells #[.int .i64 who, .int .i64 m] 24)) W → ∀ j, j < 8 → W.cell? ⟨b, o + j, none⟩ = some (.int .i64 (la.getD j 0))) := by
    intro W hW j hj
    have h1 := hc j (by omega)
    rw [(bel hbx hW).cell (p := ⟨b, o + j, none⟩) (World.block_lt_of_cell? _ _ h1)]; exact h1
  have IA : Hid (IntsIn (w.alloc (.cells #[.int .i64 who, .int .i64 m] 24)) (some ⟨b, o, none⟩) la) := ia.below hbx
  have HA : Hid (la.length = 8) := hl8
  have hwn : (who - 1).toNat = who.toNat - 1 := by omega
  have HWN : Hid ((who - 1).toNat = who.toNat - 1) := hwn
  obtain ⟨x, hx⟩ : ∃ x, x = la.getD (who.toNat - 1) 0 := ⟨_, rfl⟩
  have HX : Hid (x = la.getD (who.toNat - 1) 0) := hx
  have HCA : Hid (∀ W, Below (w.alloc (.cells #[.int .i64 who, .int .i64 m] 24)).heap.size (w.alloc (.cells #[.int .i64 who, .int .i64 m] 24)) W → W.cell? ⟨b, o + (who.toNat - 1), none⟩ = some (.int .i64 x)) := by
    intro W hW; rw [hx]; exact HCL.out W hW (who.toNat - 1) (by omega)
  have hi0 : 0 ≤ who - 1 := by omega
  have hi1 : who - 1 < 8 := by omega
  have hwr : IntKind.i64.wrap (who - 1) = who - 1 := wrap_in (by omega) (by omega)
  have hmr : IntKind.i64.wrap (m - 1) = m - 1 := wrap_in (by omega) (by omega)
  have hkn : Dm.known la who = x := by unfold Dm.known; rw [hwn, hx]
  have hx09 : 0 ≤ x ∧ x ≤ 9999 := by rw [hx]; exact HRG.out _ (by omega)
  obtain ⟨hx0r, hx9r⟩ := hx09
  have hcond : x < m - 1 := by
    unfold Dm.addE at hae
    rw [hwe, if_neg (by simp), hkn] at hae
    split at hae
    · exact absurd hae (by decide)
    · split at hae
      · omega
      · exact absurd hae (by decide)
  have hcond2 : x < m := by omega
  have HHB : Hid (Dm.hasB la who m = false) := by unfold Hid Dm.hasB; rw [hwe, hkn]; simp; omega
  clear hwn hx hkn hae hwe
  obtain ⟨kb, hkb⟩ : ∃ kb, kb = Dm.vecE lb := ⟨_, rfl⟩
  have HVB : Hid (Dm.vecE lb = kb) := hkb.symm
  have hk0 : (kb == 0) = false := by rw [hkb]; simpa using hvb
  have HBO : Hid (Dm.bothE la lb ≠ 0) := fun h => hvb (Dm.bothE_zero.1 h).2
  have HBE : Hid (Dm.bothE la lb = kb) := by unfold Hid Dm.bothE; rw [if_pos hva, hkb]
  have HCK : Hid (Dm.cmpK la lb = 0) := by unfold Hid Dm.cmpK; rw [if_neg HBO.out]
  have HCB : Hid (Dm.cmpB la lb = false) := by unfold Hid Dm.cmpB; rw [decide_eq_false HBO.out]; rfl
  clear hkb hvb
  clear hva hl8 ha hb ia ib hL hg hs hbx hc hna
  obtain ⟨i0, hi, hz0, hz1, hz2⟩ := info_parts infoInt
  go_enter Tryz.func3, Tryz.ntmps3

  have CD := rdot_any who m (w.alloc (.cells #[.int .i64 who, .int .i64 m] 24))
  rw [HED.out] at CD
  go_wp2_with fail
  refine (CD).mono ?_
  rintro e w2 ⟨rfl, hb2⟩
  have K2 : Hid (Below (w.alloc (.cells #[.int .i64 who, .int .i64 m] 24)).heap.size (w.alloc (.cells #[.int .i64 who, .int .i64 m] 24)) w2) := hb2
  clear hb2
  obtain ⟨hx0, hx1⟩ := box_cells w who m K2.out
  clear CD
  have CK := check_any who m w2
  rw [HED.out] at CK
  go_wp2_with fail
  refine (CK).mono ?_
  rintro e w3 ⟨rfl, hb3⟩
  have K3 : Hid (Below (w.alloc (.cells #[.int .i64 who, .int .i64 m] 24)).heap.size (w.alloc (.cells #[.int .i64 who, .int .i64 m] 24)) w3) := bel K2.out hb3
  clear hb3
  clear hx0 hx1
  obtain ⟨hx0, hx1⟩ := box_cells w who m K3.out
  clear CK
  go_wp2_with fail
  refine (same_self (0) w3 (ET.below HG.out K3.out)).mono ?_
  rintro e w4 ⟨rfl, hb4⟩
  have K4 : Hid (Below (w.alloc (.cells #[.int .i64 who, .int .i64 m] 24)).heap.size (w.alloc (.cells #[.int .i64 who, .int .i64 m] 24)) w4) := bel K3.out hb4
  clear hb4
  clear hx0 hx1
  obtain ⟨hx0, hx1⟩ := box_cells w who m K4.out
  have CV := rvec_any (some ⟨b, o, none⟩) 8 ca la w4 HA.out (IA.out.below K4.out)
  rw [HVA.out] at CV
  go_wp2_with fail
  refine (CV).mono ?_
  rintro e w' ⟨rfl, hw⟩
  have hw2 := hw.symm; subst hw2; clear hw
  clear CV
  have CW := vector_any (some ⟨b, o, none⟩) 8 ca la w4 HA.out (IA.out.below K4.out)
  rw [HVA.out] at CW
  go_wp2_with fail
  refine (CW).mono ?_
  rintro e w' ⟨rfl, hw⟩
  have hw2 := hw.symm; subst hw2; clear hw
  clear CW
  go_wp2_with fail
  refine (same_self (0) w4 (ET.below HG.out K4.out)).mono ?_
  rintro e w5 ⟨rfl, hb5⟩
  have K5 : Hid (Below (w.alloc (.cells #[.int .i64 who, .int .i64 m] 24)).heap.size (w.alloc (.cells #[.int .i64 who, .int .i64 m] 24)) w5) := bel K4.out hb5
  clear hb5
  clear hx0 hx1
  obtain ⟨hx0, hx1⟩ := box_cells w who m K5.out
  have hcl : w5.cell? ⟨b, o + (who.toNat - 1), none⟩ = some (.int .i64 x) := HCA.out w5 K5.out
  go_wp2_with fail
  go_quiet (fail)
  generalize hwq : World.drewN _ _ = w6
  have K6 : Hid (Below (w.alloc (.cells #[.int .i64 who, .int .i64 m] 24)).heap.size (w.alloc (.cells #[.int .i64 who, .int .i64 m] 24)) w6) := by unfold Hid; rw [← hwq]; exact bel_drew K5.out _
  clear hwq hx0 hx1 hcl
  obtain ⟨hx0, hx1⟩ := box_cells w who m K6.out
  have CH := has_any (some ⟨b, o, none⟩) 8 ca la who m w6 HA.out (IA.out.below K6.out)
  rw [HWE.out, HHB.out] at CH
  go_wp2_with fail
  refine (CH).mono ?_
  rintro e w7 ⟨rfl, hb7⟩
  have K7 : Hid (Below (w.alloc (.cells #[.int .i64 who, .int .i64 m] 24)).heap.size (w.alloc (.cells #[.int .i64 who, .int .i64 m] 24)) w7) := bel K6.out hb7
  clear hb7
  clear hx0 hx1
  obtain ⟨hx0, hx1⟩ := box_cells w who m K7.out
  clear CH
  go_wp2_with fail
  refine (same_self (0) w7 (ET.below HG.out K7.out)).mono ?_
  rintro e w8 ⟨rfl, hb8⟩
  have K8 : Hid (Below (w.alloc (.cells #[.int .i64 who, .int .i64 m] 24)).heap.size (w.alloc (.cells #[.int .i64 who, .int .i64 m] 24)) w8) := bel K7.out hb8
  clear hb8
  clear hx0 hx1
  obtain ⟨hx0, hx1⟩ := box_cells w who m K8.out
  have hcl : w8.cell? ⟨b, o + (who.toNat - 1), none⟩ = some (.int .i64 x) := HCA.out w8 K8.out
  go_wp2_with fail
  go_quiet (fail)
  generalize hwq : World.drewN _ _ = w9
  have K9 : Hid (Below (w.alloc (.cells #[.int .i64 who, .int .i64 m] 24)).heap.size (w.alloc (.cells #[.int .i64 who, .int .i64 m] 24)) w9) := by unfold Hid; rw [← hwq]; exact bel_drew K8.out _
  clear hwq hx0 hx1 hcl
  obtain ⟨hx0, hx1⟩ := box_cells w who m K9.out
  go_wp2_with fail
  refine (add_no (some ⟨b, o, none⟩) 8 ca la who m w9 HA.out (IA.out.below K9.out) HAN.out (6) HAE.out).mono ?_
  rintro e w10 ⟨rfl, hb10⟩
  have K10 : Hid (Below (w.alloc (.cells #[.int .i64 who, .int .i64 m] 24)).heap.size (w.alloc (.cells #[.int .i64 who, .int .i64 m] 24)) w10) := bel K9.out hb10
  clear hb10
  clear hx0 hx1
  go_wp2_with fail
  refine (same_k (6) w10 (ET.below HG.out K10.out)).mono ?_
  rintro e w11 ⟨rfl, hb11⟩
  have K11 : Hid (Below (w.alloc (.cells #[.int .i64 who, .int .i64 m] 24)).heap.size (w.alloc (.cells #[.int .i64 who, .int .i64 m] 24)) w11) := bel K10.out hb11
  clear hb11
  go_wp2_with fail
  refine (ints_same none none 0 0 0 [] w11 rfl (by decide) (IntsIn.nil _ _) (IntsIn.nil _ _)).mono ?_
  rintro e w12 ⟨rfl, hb12⟩
  have K12 : Hid (Below (w.alloc (.cells #[.int .i64 who, .int .i64 m] 24)).heap.size (w.alloc (.cells #[.int .i64 who, .int .i64 m] 24)) w12) := bel K11.out hb12
  clear hb12
  go_wp2_with fail
  go_loop [22, 23, 24] (fun T i _ => ∃ (k : Nat) (t : ByteArray), k ≤ 8 ∧ i = .int .i64 k ∧ T = .string t ∧ t.size ≤ k * 10 ∧ Hid (t.data.toList = textL la k)) (fun _ i _ => 8 - (intOf i).toNat)
  case atStart => exact ⟨0, ⟨#[]⟩, by omega, rfl, rfl, by decide, rfl⟩
  case round =>
    obtain ⟨k, t, hk, rfl, rfl, hts, HT⟩ := hrel
    by_cases hlt : k < 8
    · have hltz : (k : Int) < 8 := by omega
      obtain ⟨x1, hx1'⟩ : ∃ x1, x1 = la.getD k 0 := ⟨_, rfl⟩
      have d1 : w12.cell? ⟨b, o + k, none⟩ = some (.int .i64 x1) := by rw [hx1']; exact HCL.out w12 K12.out k hlt
      obtain ⟨hr0, hr9⟩ := HRG.out k hlt
      rw [← hx1'] at hr0 hr9
      obtain ⟨X, hX⟩ : ∃ X : ByteArray, X = ⟨(Lib.decDigits x1.toNat).toArray⟩ := ⟨_, rfl⟩
      have CX := digits_any x1.toNat (by omega) x1 w12 (by omega)
      rw [← hX] at CX
      have HXL : Hid (X.data.toList = Lib.itoa x1) := by unfold Hid; rw [hX, itoa_pos hr0]
      have hXs : X.size ≤ 9 := by
        have h1 := Dm.itoa_len hr0 hr9
        rw [← HXL.out] at h1; exact h1
      have HXA : Hid (la[k]? = some x1) := by
        unfold Hid; rw [hx1', List.getD_eq_getElem?_getD, List.getElem?_eq_getElem (by rw [HA.out]; exact hlt)]; rfl
      have hT1 : (t ++ (⟨#[46]⟩ : ByteArray)).size = t.size + 1 := by rw [ByteArray.size_append]; rfl
      clear hX hx1' hr0 hr9
      by_cases hk0 : (0 : Int) < (k : Int)
      · have HN : Hid (((t ++ (⟨#[46]⟩ : ByteArray)) ++ X).data.toList = textL la (k + 1)) := by
          unfold Hid; rw [app_toList, app_toList, HT.out, HXL.out, text_next (by omega) HXA.out]; simp
        have HNS : Hid (((t ++ (⟨#[46]⟩ : ByteArray)) ++ X).size ≤ (k + 1) * 10) := by
          unfold Hid; rw [ByteArray.size_append, hT1]; omega
        go_wp2_with (go_at_call 12; refine CX.mono ?_; rintro e w' ⟨rfl, hw⟩; have hw2 := hw.symm; subst hw2; clear hw CX)
        go_round
        case rel => exact ⟨k + 1, _, by omega, by go_num, rfl, HNS.out, HN⟩
        case measure => simp [intOf]; omega
      · have HN : Hid ((t ++ X).data.toList = textL la (k + 1)) := by
          have hk00 : k = 0 := by omega
          subst hk00
          unfold Hid; rw [app_toList, HT.out, HXL.out, text_zero HXA.out]; rfl
        have HNS : Hid ((t ++ X).size ≤ (k + 1) * 10) := by
          unfold Hid; rw [ByteArray.size_append]; omega
        go_wp2_with (go_at_call 12; refine CX.mono ?_; rintro e w' ⟨rfl, hw⟩; have hw2 := hw.symm; subst hw2; clear hw CX)
        go_round
        case rel => exact ⟨k + 1, _, by omega, by go_num, rfl, HNS.out, HN⟩
        case measure => simp [intOf]; omega
    · obtain rfl : k = 8 := by omega
      have HTT : Hid (t = ⟨(Dm.printT la).toArray⟩) := by
        unfold Hid; rw [← text_all HVA.out, ← HT.out]
      have hltn : ¬ (8 : Int) < (8 : Int) := by omega
      go_wp2_with fail
      refine (print_yes (some ⟨b, o, none⟩) 8 ca la w12 HA.out (IA.out.below K12.out) (HL.out.below K12.out) HVA.out t HTT.out).mono ?_
      rintro e w18 ⟨rfl, hb18⟩
      have K18 : Hid (Below (w.alloc (.cells #[.int .i64 who, .int .i64 m] 24)).heap.size (w.alloc (.cells #[.int .i64 who, .int .i64 m] 24)) w18) := bel K12.out hb18
      clear hb18
      go_wp2_with fail
      refine (same_0 w18).mono ?_
      rintro e w' ⟨rfl, hw⟩
      have hw2 := hw.symm; subst hw2; clear hw
      have CV := rvec_any pb nb cb lb w18 HB.out (IB.out.below K18.out)
      rw [HVB.out] at CV
      go_wp2_with fail
      refine (CV).mono ?_
      rintro e w' ⟨rfl, hw⟩
      have hw2 := hw.symm; subst hw2; clear hw
      clear CV
      go_wp2_with fail
      go_loop [18, 27, 28, 29, 30] (fun wv l mo i _ => wv = .slice none 0 0 ∧ l = .bool false ∧ mo = .bool false ∧ i = .int .i64 0) (fun _ _ _ _ _ => 0)
      case atStart => exact ⟨rfl, rfl, rfl, rfl⟩
      case round =>
        obtain ⟨rfl, rfl, rfl, rfl⟩ := hrel
        go_wp2_with fail
        refine (merge_no (some ⟨b, o, none⟩) pb 8 nb ca cb la lb w18 HA.out HB.out (IA.out.below K18.out) (IB.out.below K18.out) HBO.out).mono ?_
        rintro e w' ⟨rfl, hw⟩
        have hw2 := hw.symm; subst hw2; clear hw
        rw [HBE.out]
        go_wp2_with fail
        refine (same_k kb w18 (ET.below HG.out K18.out)).mono ?_
        rintro e w25 ⟨rfl, hb25⟩
        have K25 : Hid (Below (w.alloc (.cells #[.int .i64 who, .int .i64 m] 24)).heap.size (w.alloc (.cells #[.int .i64 who, .int .i64 m] 24)) w25) := bel K18.out hb25
        clear hb25
        go_wp2_with fail
        refine (ints_same none none 0 0 0 [] w25 rfl (by decide) (IntsIn.nil _ _) (IntsIn.nil _ _)).mono ?_
        rintro e w26 ⟨rfl, hb26⟩
        have K26 : Hid (Below (w.alloc (.cells #[.int .i64 who, .int .i64 m] 24)).heap.size (w.alloc (.cells #[.int .i64 who, .int .i64 m] 24)) w26) := bel K25.out hb26
        clear hb26
        have CC := compare_any (some ⟨b, o, none⟩) pb 8 nb ca cb la lb w26 HA.out HB.out (IA.out.below K26.out) (IB.out.below K26.out)
        rw [HCK.out, HCB.out, HBE.out] at CC
        go_wp2_with fail
        refine (CC).mono ?_
        rintro e w27 ⟨rfl, hb27⟩
        have K27 : Hid (Below (w.alloc (.cells #[.int .i64 who, .int .i64 m] 24)).heap.size (w.alloc (.cells #[.int .i64 who, .int .i64 m] 24)) w27) := bel K26.out hb27
        clear hb27
        clear CC
        go_wp2_with fail
        refine (same_self kb w27 (ET.below HG.out K27.out)).mono ?_
        rintro e w28 ⟨rfl, hb28⟩
        have K28 : Hid (Below (w.alloc (.cells #[.int .i64 who, .int .i64 m] 24)).heap.size (w.alloc (.cells #[.int .i64 who, .int .i64 m] 24)) w28) := bel K27.out hb28
        clear hb28
        obtain ⟨nx, hnx⟩ : ∃ nx, nx = (Dm.parseV s.data.toList).length := ⟨_, rfl⟩
        obtain ⟨ex, hex⟩ : ∃ ex, ex = Dm.parseE s.data.toList := ⟨_, rfl⟩
        have hnxb : nx ≤ 1048576 := by
          rw [hnx]
          exact Nat.le_trans (parse_len _) (by decide)
        have HNX : Hid ((Dm.parseV s.data.toList).length = nx) := hnx.symm
        have CR := read_any s w28 HS.out
        rw [← hnx, ← hex] at CR
        go_wp2_with fail
        refine CR.mono ?_
        rintro e w31 ⟨p31, c31, rfl, i31, hb31⟩
        have K31 : Hid (Below (w.alloc (.cells #[.int .i64 who, .int .i64 m] 24)).heap.size (w.alloc (.cells #[.int .i64 who, .int .i64 m] 24)) w31) := bel K28.out hb31
        have I31 : Hid (IntsIn w31 p31 (Dm.parseV s.data.toList)) := i31
        clear CR i31 hb31
        have CP := parse_any s w31 HS.out (HL.out.below K31.out)
        rw [← hnx, ← hex] at CP
        clear hnx hex
        go_wp2_with fail
        refine CP.mono ?_
        rintro e w32 ⟨p32, c32, rfl, i32, hb32⟩
        have K32 : Hid (Below (w.alloc (.cells #[.int .i64 who, .int .i64 m] 24)).heap.size (w.alloc (.cells #[.int .i64 who, .int .i64 m] 24)) w32) := bel K31.out hb32
        have I32 : Hid (IntsIn w32 p32 (Dm.parseV s.data.toList)) := i32
        have I312 : Hid (IntsIn w32 p31 (Dm.parseV s.data.toList)) := I31.out.below hb32
        clear CP i32 hb32
        go_wp2_with fail
        refine (same_self ex w32 (ET.below HG.out K32.out)).mono ?_
        rintro e w33 ⟨rfl, hb33⟩
        have K33 : Hid (Below (w.alloc (.cells #[.int .i64 who, .int .i64 m] 24)).heap.size (w.alloc (.cells #[.int .i64 who, .int .i64 m] 24)) w33) := bel K32.out hb33
        have I33 : Hid (IntsIn w33 p32 (Dm.parseV s.data.toList)) := I32.out.below hb33
        have I313 : Hid (IntsIn w33 p31 (Dm.parseV s.data.toList)) := I312.out.below hb33
        clear hb33
        go_wp2_with fail
        refine (ints_same p32 p31 nx c32 c31 _ w33 HNX.out hnxb I33.out I313.out).mono ?_
        rintro e w34 ⟨rfl, hb34⟩
        have K34 : Hid (Below (w.alloc (.cells #[.int .i64 who, .int .i64 m] 24)).heap.size (w.alloc (.cells #[.int .i64 who, .int .i64 m] 24)) w34) := bel K33.out hb34
        clear hb34
        go_wp2_with fail
        all_goals
          go_ret
          exact ⟨by first | rfl | (refine ret_bool ?_; simp [*]), bel HBX.out K34.out⟩

set_option maxHeartbeats 8000000 in
set_option maxRecDepth 100000 in
theorem walk_c6y (pa pb : Option Addr) (na nb ca cb : Nat) (la lb : List Int) (who m : Int) (s : ByteArray) (w : World) (ha : la.length = na) (hb : lb.length = nb) (hna : na ≤ 1048576) (ia : IntsIn w pa la) (ib : IntsIn w pb lb) (hs : s.size ≤ 1048576) (hL : Lib3 w) (hg : ET w)
    (hwe : Dm.withE la who m = 0) (hae : Dm.addE la who m = 6) (hvb : Dm.vecE lb = 0) :
    Calls Tryz.prog 3 #[.slice pa na ca, .slice pb nb cb, .agg #[.int .i64 who, .int .i64 m], .string s] w fun e w' => e = .returned (.bool true) ∧ Below w.heap.size w w' := by
  have hbx : Below w.heap.size w (w.alloc (.cells #[.int .i64 who, .int .i64 m] 24)) := (Below.refl _ w).alloc (Nat.le_refl _) _
  have HBX : Hid (Below w.heap.size w (w.alloc (.cells #[.int .i64 who, .int .i64 m] 24))) := hbx
  have IB : Hid (IntsIn (w.alloc (.cells #[.int .i64 who, .int .i64 m] 24)) pb lb) := ib.below hbx
  have HB : Hid (lb.length = nb) := hb
  have HL : Hid (Lib3 (w.alloc (.cells #[.int .i64 who, .int .i64 m] 24))) := hL.below hbx
  have HG : Hid (ET (w.alloc (.cells #[.int .i64 who, .int .i64 m] 24))) := ET.below hg hbx
  have HS : Hid (s.size ≤ 1048576) := hs
  obtain ⟨hva, hw1, hw8, hm1, hm9⟩ := with_zero hwe
  have HED : Hid (Dm.dotE who m = 0) := Dm.dotE_zero hw1 hw8 hm1 hm9
  have HWE : Hid (Dm.withE la who m = 0) := hwe
  have HAE : Hid (Dm.addE la who m = 6) := hae
  have HAN : Hid (Dm.addE la who m ≠ 0) := by unfold Hid; rw [hae]; decide
  have HVA : Hid (Dm.vecE la = 0) := hva
  have hl8 := (Dm.vecE_zero.1 hva).1
  obtain rfl : na = 8 := by omega
  have HRG : Hid (∀ j, j < 8 → 0 ≤ la.getD j 0 ∧ la.getD j 0 ≤ 9999) := by
    intro j hj
    rw [List.getD_eq_getElem?_getD, List.getElem?_eq_getElem (by omega)]
    exact (Dm.vecE_zero.1 hva).2 _ (List.getElem_mem _)
  obtain ⟨b, o, rfl, hc⟩ := ia.some (by rintro rfl; simp at hl8)
  have HCL : Hid (∀ W, Below (w.alloc (.cells #[.int .i64 who, .int .i64 m] 24)).heap.size (w.alloc (.cells #[.int .i64 who, .int .i64 m] 24)) W → ∀ j, j < 8 → W.cell? ⟨b, o + j, none⟩ = some (.int .i64 (la.getD j 0))) := by
    intro W hW j hj
    have h1 := hc j (by omega)
    rw [(bel hbx hW).cell (p := ⟨b, o + j, none⟩) (World.block_lt_of_cell? _ _ h1)]; exact h1
  have IA : Hid (IntsIn (w.alloc (.cells #[.int .i64 who, .int .i64 m] 24)) (some ⟨b, o, none⟩) la) := ia.below hbx
  have HA : Hid (la.length = 8) := hl8
  have hwn : (who - 1).toNat = who.toNat - 1 := by omega
  have HWN : Hid ((who - 1).toNat = who.toNat - 1) := hwn
  obtain ⟨x, hx⟩ : ∃ x, x = la.getD (who.toNat - 1) 0 := ⟨_, rfl⟩
  have HX : Hid (x = la.getD (who.toNat - 1) 0) := hx
  have HCA : Hid (∀ W, Below (w.alloc (.cells #[.int .i64 who, .int .i64 m] 24)).heap.size (w.alloc (.cells #[.int .i64 who, .int .i64 m] 24)) W → W.cell? ⟨b, o + (who.toNat - 1), none⟩ = some (.int .i64 x)) := by
    intro W hW; rw [hx]; exact HCL.out W hW (who.toNat - 1) (by omega)
  have hi0 : 0 ≤ who - 1 := by omega
  have hi1 : who - 1 < 8 := by omega
  have hwr : IntKind.i64.wrap (who - 1) = who - 1 := wrap_in (by omega) (by omega)
  have hmr : IntKind.i64.wrap (m - 1) = m - 1 := wrap_in (by omega) (by omega)
  have hkn : Dm.known la who = x := by unfold Dm.known; rw [hwn, hx]
  have hx09 : 0 ≤ x ∧ x ≤ 9999 := by rw [hx]; exact HRG.out _ (by omega)
  obtain ⟨hx0r, hx9r⟩ := hx09
  have hcond : x < m - 1 := by
    unfold Dm.addE at hae
    rw [hwe, if_neg (by simp), hkn] at hae
    split at hae
    · exact absurd hae (by decide)
    · split at hae
      · omega
      · exact absurd hae (by decide)
  have hcond2 : x < m := by omega
  have HHB : Hid (Dm.hasB la who m = false) := by unfold Hid Dm.hasB; rw [hwe, hkn]; simp; omega
  clear hwn hx hkn hae hwe
  have HVB : Hid (Dm.vecE lb = 0) := hvb
  have lb8 := (Dm.vecE_zero.1 hvb).1
  obtain rfl : nb = 8 := by omega
  obtain ⟨b2, o2, rfl, hc2⟩ := ib.some (by rintro rfl; simp at lb8)
  have HCM : Hid (∀ W, Below (w.alloc (.cells #[.int .i64 who, .int .i64 m] 24)).heap.size (w.alloc (.cells #[.int .i64 who, .int .i64 m] 24)) W → ∀ j, j < 8 → W.cell? ⟨b2, o2 + j, none⟩ = some (.int .i64 (lb.getD j 0))) := by
    intro W hW j hj
    have h1 := hc2 j (by omega)
    rw [(bel hbx hW).cell (p := ⟨b2, o2 + j, none⟩) (World.block_lt_of_cell? _ _ h1)]; exact h1
  clear hc2 lb8 hvb
  clear hva hl8 ha hb ia ib hL hg hs hbx hc hna
  obtain ⟨i0, hi, hz0, hz1, hz2⟩ := info_parts infoInt
  go_enter Tryz.func3, Tryz.ntmps3

  have CD := rdot_any who m (w.alloc (.cells #[.int .i64 who, .int .i64 m] 24))
  rw [HED.out] at CD
  go_wp2_with fail
  refine (CD).mono ?_
  rintro e w2 ⟨rfl, hb2⟩
  have K2 : Hid (Below (w.alloc (.cells #[.int .i64 who, .int .i64 m] 24)).heap.size (w.alloc (.cells #[.int .i64 who, .int .i64 m] 24)) w2) := hb2
  clear hb2
  obtain ⟨hx0, hx1⟩ := box_cells w who m K2.out
  clear CD
  have CK := check_any who m w2
  rw [HED.out] at CK
  go_wp2_with fail
  refine (CK).mono ?_
  rintro e w3 ⟨rfl, hb3⟩
  have K3 : Hid (Below (w.alloc (.cells #[.int .i64 who, .int .i64 m] 24)).heap.size (w.alloc (.cells #[.int .i64 who, .int .i64 m] 24)) w3) := bel K2.out hb3
  clear hb3
  clear hx0 hx1
  obtain ⟨hx0, hx1⟩ := box_cells w who m K3.out
  clear CK
  go_wp2_with fail
  refine (same_self (0) w3 (ET.below HG.out K3.out)).mono ?_
  rintro e w4 ⟨rfl, hb4⟩
  have K4 : Hid (Below (w.alloc (.cells #[.int .i64 who, .int .i64 m] 24)).heap.size (w.alloc (.cells #[.int .i64 who, .int .i64 m] 24)) w4) := bel K3.out hb4
  clear hb4
  clear hx0 hx1
  obtain ⟨hx0, hx1⟩ := box_cells w who m K4.out
  have CV := rvec_any (some ⟨b, o, none⟩) 8 ca la w4 HA.out (IA.out.below K4.out)
  rw [HVA.out] at CV
  go_wp2_with fail
  refine (CV).mono ?_
  rintro e w' ⟨rfl, hw⟩
  have hw2 := hw.symm; subst hw2; clear hw
  clear CV
  have CW := vector_any (some ⟨b, o, none⟩) 8 ca la w4 HA.out (IA.out.below K4.out)
  rw [HVA.out] at CW
  go_wp2_with fail
  refine (CW).mono ?_
  rintro e w' ⟨rfl, hw⟩
  have hw2 := hw.symm; subst hw2; clear hw
  clear CW
  go_wp2_with fail
  refine (same_self (0) w4 (ET.below HG.out K4.out)).mono ?_
  rintro e w5 ⟨rfl, hb5⟩
  have K5 : Hid (Below (w.alloc (.cells #[.int .i64 who, .int .i64 m] 24)).heap.size (w.alloc (.cells #[.int .i64 who, .int .i64 m] 24)) w5) := bel K4.out hb5
  clear hb5
  clear hx0 hx1
  obtain ⟨hx0, hx1⟩ := box_cells w who m K5.out
  have hcl : w5.cell? ⟨b, o + (who.toNat - 1), none⟩ = some (.int .i64 x) := HCA.out w5 K5.out
  go_wp2_with fail
  go_quiet (fail)
  generalize hwq : World.drewN _ _ = w6
  have K6 : Hid (Below (w.alloc (.cells #[.int .i64 who, .int .i64 m] 24)).heap.size (w.alloc (.cells #[.int .i64 who, .int .i64 m] 24)) w6) := by unfold Hid; rw [← hwq]; exact bel_drew K5.out _
  clear hwq hx0 hx1 hcl
  obtain ⟨hx0, hx1⟩ := box_cells w who m K6.out
  have CH := has_any (some ⟨b, o, none⟩) 8 ca la who m w6 HA.out (IA.out.below K6.out)
  rw [HWE.out, HHB.out] at CH
  go_wp2_with fail
  refine (CH).mono ?_
  rintro e w7 ⟨rfl, hb7⟩
  have K7 : Hid (Below (w.alloc (.cells #[.int .i64 who, .int .i64 m] 24)).heap.size (w.alloc (.cells #[.int .i64 who, .int .i64 m] 24)) w7) := bel K6.out hb7
  clear hb7
  clear hx0 hx1
  obtain ⟨hx0, hx1⟩ := box_cells w who m K7.out
  clear CH
  go_wp2_with fail
  refine (same_self (0) w7 (ET.below HG.out K7.out)).mono ?_
  rintro e w8 ⟨rfl, hb8⟩
  have K8 : Hid (Below (w.alloc (.cells #[.int .i64 who, .int .i64 m] 24)).heap.size (w.alloc (.cells #[.int .i64 who, .int .i64 m] 24)) w8) := bel K7.out hb8
  clear hb8
  clear hx0 hx1
  obtain ⟨hx0, hx1⟩ := box_cells w who m K8.out
  have hcl : w8.cell? ⟨b, o + (who.toNat - 1), none⟩ = some (.int .i64 x) := HCA.out w8 K8.out
  go_wp2_with fail
  go_quiet (fail)
  generalize hwq : World.drewN _ _ = w9
  have K9 : Hid (Below (w.alloc (.cells #[.int .i64 who, .int .i64 m] 24)).heap.size (w.alloc (.cells #[.int .i64 who, .int .i64 m] 24)) w9) := by unfold Hid; rw [← hwq]; exact bel_drew K8.out _
  clear hwq hx0 hx1 hcl
  obtain ⟨hx0, hx1⟩ := box_cells w who m K9.out
  go_wp2_with fail
  refine (add_no (some ⟨b, o, none⟩) 8 ca la who m w9 HA.out (IA.out.below K9.out) HAN.out (6) HAE.out).mono ?_
  rintro e w10 ⟨rfl, hb10⟩
  have K10 : Hid (Below (w.alloc (.cells #[.int .i64 who, .int .i64 m] 24)).heap.size (w.alloc (.cells #[.int .i64 who, .int .i64 m] 24)) w10) := bel K9.out hb10
  clear hb10
  clear hx0 hx1
  go_wp2_with fail
  refine (same_k (6) w10 (ET.below HG.out K10.out)).mono ?_
  rintro e w11 ⟨rfl, hb11⟩
  have K11 : Hid (Below (w.alloc (.cells #[.int .i64 who, .int .i64 m] 24)).heap.size (w.alloc (.cells #[.int .i64 who, .int .i64 m] 24)) w11) := bel K10.out hb11
  clear hb11
  go_wp2_with fail
  refine (ints_same none none 0 0 0 [] w11 rfl (by decide) (IntsIn.nil _ _) (IntsIn.nil _ _)).mono ?_
  rintro e w12 ⟨rfl, hb12⟩
  have K12 : Hid (Below (w.alloc (.cells #[.int .i64 who, .int .i64 m] 24)).heap.size (w.alloc (.cells #[.int .i64 who, .int .i64 m] 24)) w12) := bel K11.out hb12
  clear hb12
  go_wp2_with fail
  go_loop [22, 23, 24] (fun T i _ => ∃ (k : Nat) (t : ByteArray), k ≤ 8 ∧ i = .int .i64 k ∧ T = .string t ∧ t.size ≤ k * 10 ∧ Hid (t.data.toList = textL la k)) (fun _ i _ => 8 - (intOf i).toNat)
  case atStart => exact ⟨0, ⟨#[]⟩, by omega, rfl, rfl, by decide, rfl⟩
  case round =>
    obtain ⟨k, t, hk, rfl, rfl, hts, HT⟩ := hrel
    by_cases hlt : k < 8
    · have hltz : (k : Int) < 8 := by omega
      obtain ⟨x1, hx1'⟩ : ∃ x1, x1 = la.getD k 0 := ⟨_, rfl⟩
      have d1 : w12.cell? ⟨b, o + k, none⟩ = some (.int .i64 x1) := by rw [hx1']; exact HCL.out w12 K12.out k hlt
      obtain ⟨hr0, hr9⟩ := HRG.out k hlt
      rw [← hx1'] at hr0 hr9
      obtain ⟨X, hX⟩ : ∃ X : ByteArray, X = ⟨(Lib.decDigits x1.toNat).toArray⟩ := ⟨_, rfl⟩
      have CX := digits_any x1.toNat (by omega) x1 w12 (by omega)
      rw [← hX] at CX
      have HXL : Hid (X.data.toList = Lib.itoa x1) := by unfold Hid; rw [hX, itoa_pos hr0]
      have hXs : X.size ≤ 9 := by
        have h1 := Dm.itoa_len hr0 hr9
        rw [← HXL.out] at h1; exact h1
      have HXA : Hid (la[k]? = some x1) := by
        unfold Hid; rw [hx1', List.getD_eq_getElem?_getD, List.getElem?_eq_getElem (by rw [HA.out]; exact hlt)]; rfl
      have hT1 : (t ++ (⟨#[46]⟩ : ByteArray)).size = t.size + 1 := by rw [ByteArray.size_append]; rfl
      clear hX hx1' hr0 hr9
      by_cases hk0 : (0 : Int) < (k : Int)
      · have HN : Hid (((t ++ (⟨#[46]⟩ : ByteArray)) ++ X).data.toList = textL la (k + 1)) := by
          unfold Hid; rw [app_toList, app_toList, HT.out, HXL.out, text_next (by omega) HXA.out]; simp
        have HNS : Hid (((t ++ (⟨#[46]⟩ : ByteArray)) ++ X).size ≤ (k + 1) * 10) := by
          unfold Hid; rw [ByteArray.size_append, hT1]; omega
        go_wp2_with (go_at_call 12; refine CX.mono ?_; rintro e w' ⟨rfl, hw⟩; have hw2 := hw.symm; subst hw2; clear hw CX)
        go_round
        case rel => exact ⟨k + 1, _, by omega, by go_num, rfl, HNS.out, HN⟩
        case measure => simp [intOf]; omega
      · have HN : Hid ((t ++ X).data.toList = textL la (k + 1)) := by
          have hk00 : k = 0 := by omega
          subst hk00
          unfold Hid; rw [app_toList, HT.out, HXL.out, text_zero HXA.out]; rfl
        have HNS : Hid ((t ++ X).size ≤ (k + 1) * 10) := by
          unfold Hid; rw [ByteArray.size_append]; omega
        go_wp2_with (go_at_call 12; refine CX.mono ?_; rintro e w' ⟨rfl, hw⟩; have hw2 := hw.symm; subst hw2; clear hw CX)
        go_round
        case rel => exact ⟨k + 1, _, by omega, by go_num, rfl, HNS.out, HN⟩
        case measure => simp [intOf]; omega
    · obtain rfl : k = 8 := by omega
      have HTT : Hid (t = ⟨(Dm.printT la).toArray⟩) := by
        unfold Hid; rw [← text_all HVA.out, ← HT.out]
      have hltn : ¬ (8 : Int) < (8 : Int) := by omega
      go_wp2_with fail
      refine (print_yes (some ⟨b, o, none⟩) 8 ca la w12 HA.out (IA.out.below K12.out) (HL.out.below K12.out) HVA.out t HTT.out).mono ?_
      rintro e w18 ⟨rfl, hb18⟩
      have K18 : Hid (Below (w.alloc (.cells #[.int .i64 who, .int .i64 m] 24)).heap.size (w.alloc (.cells #[.int .i64 who, .int .i64 m] 24)) w18) := bel K12.out hb18
      clear hb18
      go_wp2_with fail
      refine (same_0 w18).mono ?_
      rintro e w' ⟨rfl, hw⟩
      have hw2 := hw.symm; subst hw2; clear hw
      have CV := rvec_any (some ⟨b2, o2, none⟩) 8 cb lb w18 HB.out (IB.out.below K18.out)
      rw [HVB.out] at CV
      go_wp2_with fail
      refine (CV).mono ?_
      rintro e w' ⟨rfl, hw⟩
      have hw2 := hw.symm; subst hw2; clear hw
      clear CV
      go_wp2_with fail
      go_loopw [18, 27, 28, 29, 30] (fun wv l mo i _ wr => ∃ k : Nat, k ≤ 8 ∧ i = .int .i64 k ∧ l = .bool (lk la lb k) ∧ mo = .bool (lk lb la k) ∧ Hid (wr.ownsRow (w.alloc (.cells #[.int .i64 who, .int .i64 m] 24)).heap.size 3 1 wv k (((Dm.mergeL la lb).take k).map (fun z => Value.int .i64 z))) ∧ Hid (Below (w.alloc (.cells #[.int .i64 who, .int .i64 m] 24)).heap.size (w.alloc (.cells #[.int .i64 who, .int .i64 m] 24)) wr)) (fun _ _ _ i _ _ => 8 - (intOf i).toNat)
      case atStart => exact ⟨0, by omega, rfl, rfl, rfl, World.ownsRow_nil _ _ _ _, K18⟩
      case round =>
        obtain ⟨k, hk, rfl, rfl, rfl, HOW, KR⟩ := hrel
        by_cases hlt : k < 8
        · have hltz : (k : Int) < 8 := by omega
          obtain ⟨x, hx⟩ : ∃ x, x = la.getD k 0 := ⟨_, rfl⟩
          obtain ⟨y, hy⟩ : ∃ y, y = lb.getD k 0 := ⟨_, rfl⟩
          have d1 : wr.cell? ⟨b, o + k, none⟩ = some (.int .i64 x) := by rw [hx]; exact HCL.out wr KR.out k hlt
          have d2 : wr.cell? ⟨b2, o2 + k, none⟩ = some (.int .i64 y) := by rw [hy]; exact HCM.out wr KR.out k hlt
          have HX2 : Hid (x = la.getD k 0) := hx
          have HY2 : Hid (y = lb.getD k 0) := hy
          have HS1 : Hid (lk la lb (k + 1) = (lk la lb k || decide (x < y))) := by unfold Hid; rw [lk_succ, hx, hy]
          have HS2 : Hid (lk lb la (k + 1) = (lk lb la k || decide (y < x))) := by unfold Hid; rw [lk_succ, hx, hy]
          have HMT : Hid (∀ z, z = max x y → ((Dm.mergeL la lb).take k).map (fun z => Value.int .i64 z) ++ [.int .i64 z] = ((Dm.mergeL la lb).take (k + 1)).map (fun z => Value.int .i64 z)) := by
            intro z hz; exact merge_take HVA.out HVB.out hlt (by rw [hz, hx, hy])
          obtain ⟨Lk, hLk⟩ : ∃ Lk, Lk = lk la lb k := ⟨_, rfl⟩
          obtain ⟨Mk, hMk⟩ : ∃ Mk, Mk = lk lb la k := ⟨_, rfl⟩
          rw [← hLk, ← hMk]
          rw [← hLk] at HS1
          rw [← hMk] at HS2
          clear hLk hMk hx hy
          cases hMv : Mk
          all_goals subst hMv
          all_goals by_cases hxy : x < y
          · have HZ : Hid (y = max x y) := by unfold Hid; omega
            go_wp2_with fail
            go_quiet (fail)
            generalize hwq : World.drewN _ _ = wq
            have KQ : Hid (Below (w.alloc (.cells #[.int .i64 who, .int .i64 m] 24)).heap.size (w.alloc (.cells #[.int .i64 who, .int .i64 m] 24)) wq) := by unfold Hid; rw [← hwq]; exact bel_drew KR.out _
            have HOQ : Hid (wq.ownsRow (w.alloc (.cells #[.int .i64 who, .int .i64 m] 24)).heap.size 3 1 u18 k (((Dm.mergeL la lb).take k).map (fun z => Value.int .i64 z))) := by unfold Hid; rw [← hwq]; exact HOW.out
            clear hwq d1 d2
            go_wp2_with (at_builtin; refine wpList_append_own_at _ rfl (.tmp 188) (.tmp 190) 22 rfl (w.alloc (.cells #[.int .i64 who, .int .i64 m] 24)).heap.size 3 i0 (.int .i64 0) 1 8 Tryz.underlying22 hi hz0 hz1 hz2 rfl (by decide) u18 k _ rfl (HOQ.out.alloc _) ⟨wq.heap.size, 0, none⟩ 1 1 [.int .i64 y] rfl rfl (cell_one_new _ _ _) (by intro u hu; simp at hu; subst hu; rfl) (by unfold maxLen; omega) (by omega) (by have := KQ.out.size; simp at this ⊢; omega) ?_; intro v' w2x hown' hgrow _ hat; have HB2 : Hid (Below (w.alloc (.cells #[.int .i64 who, .int .i64 m] 24)).heap.size (w.alloc (.cells #[.int .i64 who, .int .i64 m] 24)) w2x) := own_grow HOQ.out KQ.out hgrow; have HO2 : Hid (w2x.ownsRow (w.alloc (.cells #[.int .i64 who, .int .i64 m] 24)).heap.size 3 1 v' (k + 1) (((Dm.mergeL la lb).take (k + 1)).map (fun z => Value.int .i64 z))) := (by rw [← HMT.out y HZ.out]; exact hown'); clear hown' hgrow hat)
            go_roundw
            case rel => exact ⟨k + 1, by omega, by go_num, (by rw [HS1.out, decide_eq_true (by omega), Bool.or_true]), (by rw [HS2.out]; simp; try omega), HO2, HB2⟩
            case measure => simp [intOf]; omega
          · have HZ : Hid (x = max x y) := by unfold Hid; omega
            go_wp2_with fail
            go_quiet (fail)
            generalize hwq : World.drewN _ _ = wq
            have KQ : Hid (Below (w.alloc (.cells #[.int .i64 who, .int .i64 m] 24)).heap.size (w.alloc (.cells #[.int .i64 who, .int .i64 m] 24)) wq) := by unfold Hid; rw [← hwq]; exact bel_drew KR.out _
            have HOQ : Hid (wq.ownsRow (w.alloc (.cells #[.int .i64 who, .int .i64 m] 24)).heap.size 3 1 u18 k (((Dm.mergeL la lb).take k).map (fun z => Value.int .i64 z))) := by unfold Hid; rw [← hwq]; exact HOW.out
            clear hwq d1 d2
            go_wp2_with (at_builtin; refine wpList_append_own_at _ rfl (.tmp 188) (.tmp 190) 22 rfl (w.alloc (.cells #[.int .i64 who, .int .i64 m] 24)).heap.size 3 i0 (.int .i64 0) 1 8 Tryz.underlying22 hi hz0 hz1 hz2 rfl (by decide) u18 k _ rfl (HOQ.out.alloc _) ⟨wq.heap.size, 0, none⟩ 1 1 [.int .i64 x] rfl rfl (cell_one_new _ _ _) (by intro u hu; simp at hu; subst hu; rfl) (by unfold maxLen; omega) (by omega) (by have := KQ.out.size; simp at this ⊢; omega) ?_; intro v' w2x hown' hgrow _ hat; have HB2 : Hid (Below (w.alloc (.cells #[.int .i64 who, .int .i64 m] 24)).heap.size (w.alloc (.cells #[.int .i64 who, .int .i64 m] 24)) w2x) := own_grow HOQ.out KQ.out hgrow; have HO2 : Hid (w2x.ownsRow (w.alloc (.cells #[.int .i64 who, .int .i64 m] 24)).heap.size 3 1 v' (k + 1) (((Dm.mergeL la lb).take (k + 1)).map (fun z => Value.int .i64 z))) := (by rw [← HMT.out x HZ.out]; exact hown'); clear hown' hgrow hat)
            go_roundw
            case rel => exact ⟨k + 1, by omega, by go_num, (by rw [HS1.out, decide_eq_false (by omega), Bool.or_false]), (by rw [HS2.out]; simp; try omega), HO2, HB2⟩
            case measure => simp [intOf]; omega
          · have HZ : Hid (y = max x y) := by unfold Hid; omega
            go_wp2_with fail
            go_quiet (fail)
            generalize hwq : World.drewN _ _ = wq
            have KQ : Hid (Below (w.alloc (.cells #[.int .i64 who, .int .i64 m] 24)).heap.size (w.alloc (.cells #[.int .i64 who, .int .i64 m] 24)) wq) := by unfold Hid; rw [← hwq]; exact bel_drew KR.out _
            have HOQ : Hid (wq.ownsRow (w.alloc (.cells #[.int .i64 who, .int .i64 m] 24)).heap.size 3 1 u18 k (((Dm.mergeL la lb).take k).map (fun z => Value.int .i64 z))) := by unfold Hid; rw [← hwq]; exact HOW.out
            clear hwq d1 d2
            go_wp2_with (at_builtin; refine wpList_append_own_at _ rfl (.tmp 188) (.tmp 190) 22 rfl (w.alloc (.cells #[.int .i64 who, .int .i64 m] 24)).heap.size 3 i0 (.int .i64 0) 1 8 Tryz.underlying22 hi hz0 hz1 hz2 rfl (by decide) u18 k _ rfl (HOQ.out.alloc _) ⟨wq.heap.size, 0, none⟩ 1 1 [.int .i64 y] rfl rfl (cell_one_new _ _ _) (by intro u hu; simp at hu; subst hu; rfl) (by unfold maxLen; omega) (by omega) (by have := KQ.out.size; simp at this ⊢; omega) ?_; intro v' w2x hown' hgrow _ hat; have HB2 : Hid (Below (w.alloc (.cells #[.int .i64 who, .int .i64 m] 24)).heap.size (w.alloc (.cells #[.int .i64 who, .int .i64 m] 24)) w2x) := own_grow HOQ.out KQ.out hgrow; have HO2 : Hid (w2x.ownsRow (w.alloc (.cells #[.int .i64 who, .int .i64 m] 24)).heap.size 3 1 v' (k + 1) (((Dm.mergeL la lb).take (k + 1)).map (fun z => Value.int .i64 z))) := (by rw [← HMT.out y HZ.out]; exact hown'); clear hown' hgrow hat)
            go_roundw
            case rel => exact ⟨k + 1, by omega, by go_num, (by rw [HS1.out, decide_eq_true (by omega), Bool.or_true]), (by rw [HS2.out]; simp; try omega), HO2, HB2⟩
            case measure => simp [intOf]; omega
          · have HZ : Hid (x = max x y) := by unfold Hid; omega
            go_wp2_with fail
            go_quiet (fail)
            generalize hwq : World.drewN _ _ = wq
            have KQ : Hid (Below (w.alloc (.cells #[.int .i64 who, .int .i64 m] 24)).heap.size (w.alloc (.cells #[.int .i64 who, .int .i64 m] 24)) wq) := by unfold Hid; rw [← hwq]; exact bel_drew KR.out _
            have HOQ : Hid (wq.ownsRow (w.alloc (.cells #[.int .i64 who, .int .i64 m] 24)).heap.size 3 1 u18 k (((Dm.mergeL la lb).take k).map (fun z => Value.int .i64 z))) := by unfold Hid; rw [← hwq]; exact HOW.out
            clear hwq d1 d2
            go_wp2_with (at_builtin; refine wpList_append_own_at _ rfl (.tmp 188) (.tmp 190) 22 rfl (w.alloc (.cells #[.int .i64 who, .int .i64 m] 24)).heap.size 3 i0 (.int .i64 0) 1 8 Tryz.underlying22 hi hz0 hz1 hz2 rfl (by decide) u18 k _ rfl (HOQ.out.alloc _) ⟨wq.heap.size, 0, none⟩ 1 1 [.int .i64 x] rfl rfl (cell_one_new _ _ _) (by intro u hu; simp at hu; subst hu; rfl) (by unfold maxLen; omega) (by omega) (by have := KQ.out.size; simp at this ⊢; omega) ?_; intro v' w2x hown' hgrow _ hat; have HB2 : Hid (Below (w.alloc (.cells #[.int .i64 who, .int .i64 m] 24)).heap.size (w.alloc (.cells #[.int .i64 who, .int .i64 m] 24)) w2x) := own_grow HOQ.out KQ.out hgrow; have HO2 : Hid (w2x.ownsRow (w.alloc (.cells #[.int .i64 who, .int .i64 m] 24)).heap.size 3 1 v' (k + 1) (((Dm.mergeL la lb).take (k + 1)).map (fun z => Value.int .i64 z))) := (by rw [← HMT.out x HZ.out]; exact hown'); clear hown' hgrow hat)
            go_roundw
            case rel => exact ⟨k + 1, by omega, by go_num, (by rw [HS1.out, decide_eq_false (by omega), Bool.or_false]), (by rw [HS2.out]; simp; try omega), HO2, HB2⟩
            case measure => simp [intOf]; omega
        · obtain rfl : k = 8 := by omega
          obtain ⟨g20, cap20, rfl, hc20⟩ := own_cells HOW.out (by decide)
          have HML : Hid ((Dm.mergeL la lb).length = 8) := (Dm.vecE_zero.1 (Dm.mergeL_vec HVA.out HVB.out)).1
          have I20 : Hid (IntsIn wr (some ⟨g20, 0, none⟩) (Dm.mergeL la lb)) := want_in HML.out hc20
          clear hc20 HOW
          rw [lk_more la lb, lk_more lb la]
          have HBO : Hid (Dm.bothE la lb = 0) := Dm.bothE_zero.2 ⟨HVA.out, HVB.out⟩
          have HKI : Hid (Dm.cmpK la lb = Dm.cmpI la lb) := by unfold Hid Dm.cmpK; rw [if_pos HBO.out]
          have HBB : Hid (Dm.cmpB la lb = !(Dm.more la lb && Dm.more lb la)) := by unfold Hid Dm.cmpB; rw [decide_eq_true HBO.out]; rfl
          cases hm1 : Dm.more la lb
          all_goals cases hm2 : Dm.more lb la
          · have HCK : Hid (Dm.cmpK la lb = 0) := by unfold Hid; rw [HKI.out]; unfold Dm.cmpI; rw [hm1, hm2]; rfl
            have HCB : Hid (Dm.cmpB la lb = true) := by unfold Hid; rw [HBB.out, hm1, hm2]; rfl
            clear hm1 hm2 HKI HBB
            go_wp2_with fail
            refine (merge_gg (some ⟨b, o, none⟩) (some ⟨b2, o2, none⟩) 8 8 ca cb la lb wr HA.out HB.out (IA.out.below KR.out) (IB.out.below KR.out) HBO.out).mono ?_
            rintro e w25 ⟨g25, rfl, i25, hb25⟩
            have K25 : Hid (Below (w.alloc (.cells #[.int .i64 who, .int .i64 m] 24)).heap.size (w.alloc (.cells #[.int .i64 who, .int .i64 m] 24)) w25) := bel KR.out hb25
            have I25 : Hid (IntsIn w25 (some ⟨g25, 0, none⟩) (Dm.mergeL la lb)) := i25
            have I205 : Hid (IntsIn w25 (some ⟨g20, 0, none⟩) (Dm.mergeL la lb)) := I20.out.below hb25
            clear i25 hb25
            go_wp2_with fail
            refine (same_0 w25).mono ?_
            rintro e w' ⟨rfl, hw⟩
            have hw2 := hw.symm; subst hw2; clear hw
            go_wp2_with fail
            refine (ints_same (some ⟨g25, 0, none⟩) (some ⟨g20, 0, none⟩) 8 8 cap20 _ w25 HML.out (by decide) I25.out I205.out).mono ?_
            rintro e w26 ⟨rfl, hb26⟩
            have K26 : Hid (Below (w.alloc (.cells #[.int .i64 who, .int .i64 m] 24)).heap.size (w.alloc (.cells #[.int .i64 who, .int .i64 m] 24)) w26) := bel K25.out hb26
            clear hb26
            have CC := compare_any (some ⟨b, o, none⟩) (some ⟨b2, o2, none⟩) 8 8 ca cb la lb w26 HA.out HB.out (IA.out.below K26.out) (IB.out.below K26.out)
            rw [HCK.out, HCB.out, HBO.out, errV_zero] at CC
            go_wp2_with fail
            refine CC.mono ?_
            rintro e w27 ⟨rfl, hb27⟩
            have K27 : Hid (Below (w.alloc (.cells #[.int .i64 who, .int .i64 m] 24)).heap.size (w.alloc (.cells #[.int .i64 who, .int .i64 m] 24)) w27) := bel K26.out hb27
            clear CC hb27
            go_wp2_with fail
            refine (same_0 w27).mono ?_
            rintro e w' ⟨rfl, hw⟩
            have hw2 := hw.symm; subst hw2; clear hw
            obtain ⟨nx, hnx⟩ : ∃ nx, nx = (Dm.parseV s.data.toList).length := ⟨_, rfl⟩
            obtain ⟨ex, hex⟩ : ∃ ex, ex = Dm.parseE s.data.toList := ⟨_, rfl⟩
            have hnxb : nx ≤ 1048576 := by
              rw [hnx]
              exact Nat.le_trans (parse_len _) (by decide)
            have HNX : Hid ((Dm.parseV s.data.toList).length = nx) := hnx.symm
            have CR := read_any s w27 HS.out
            rw [← hnx, ← hex] at CR
            go_wp2_with fail
            refine CR.mono ?_
            rintro e w31 ⟨p31, c31, rfl, i31, hb31⟩
            have K31 : Hid (Below (w.alloc (.cells #[.int .i64 who, .int .i64 m] 24)).heap.size (w.alloc (.cells #[.int .i64 who, .int .i64 m] 24)) w31) := bel K27.out hb31
            have I31 : Hid (IntsIn w31 p31 (Dm.parseV s.data.toList)) := i31
            clear CR i31 hb31
            have CP := parse_any s w31 HS.out (HL.out.below K31.out)
            rw [← hnx, ← hex] at CP
            clear hnx hex
            go_wp2_with fail
            refine CP.mono ?_
            rintro e w32 ⟨p32, c32, rfl, i32, hb32⟩
            have K32 : Hid (Below (w.alloc (.cells #[.int .i64 who, .int .i64 m] 24)).heap.size (w.alloc (.cells #[.int .i64 who, .int .i64 m] 24)) w32) := bel K31.out hb32
            have I32 : Hid (IntsIn w32 p32 (Dm.parseV s.data.toList)) := i32
            have I312 : Hid (IntsIn w32 p31 (Dm.parseV s.data.toList)) := I31.out.below hb32
            clear CP i32 hb32
            go_wp2_with fail
            refine (same_self ex w32 (ET.below HG.out K32.out)).mono ?_
            rintro e w33 ⟨rfl, hb33⟩
            have K33 : Hid (Below (w.alloc (.cells #[.int .i64 who, .int .i64 m] 24)).heap.size (w.alloc (.cells #[.int .i64 who, .int .i64 m] 24)) w33) := bel K32.out hb33
            have I33 : Hid (IntsIn w33 p32 (Dm.parseV s.data.toList)) := I32.out.below hb33
            have I313 : Hid (IntsIn w33 p31 (Dm.parseV s.data.toList)) := I312.out.below hb33
            clear hb33
            go_wp2_with fail
            refine (ints_same p32 p31 nx c32 c31 _ w33 HNX.out hnxb I33.out I313.out).mono ?_
            rintro e w34 ⟨rfl, hb34⟩
            have K34 : Hid (Below (w.alloc (.cells #[.int .i64 who, .int .i64 m] 24)).heap.size (w.alloc (.cells #[.int .i64 who, .int .i64 m] 24)) w34) := bel K33.out hb34
            clear hb34
            go_wp2_with fail
            all_goals
              go_ret
              exact ⟨by first | rfl | (refine ret_bool ?_; simp [*]), bel HBX.out K34.out⟩
          · have HCK : Hid (Dm.cmpK la lb = (-1)) := by unfold Hid; rw [HKI.out]; unfold Dm.cmpI; rw [hm1, hm2]; rfl
            have HCB : Hid (Dm.cmpB la lb = true) := by unfold Hid; rw [HBB.out, hm1, hm2]; rfl
            clear hm1 hm2 HKI HBB
            go_wp2_with fail
            refine (merge_gg (some ⟨b, o, none⟩) (some ⟨b2, o2, none⟩) 8 8 ca cb la lb wr HA.out HB.out (IA.out.below KR.out) (IB.out.below KR.out) HBO.out).mono ?_
            rintro e w25 ⟨g25, rfl, i25, hb25⟩
            have K25 : Hid (Below (w.alloc (.cells #[.int .i64 who, .int .i64 m] 24)).heap.size (w.alloc (.cells #[.int .i64 who, .int .i64 m] 24)) w25) := bel KR.out hb25
            have I25 : Hid (IntsIn w25 (some ⟨g25, 0, none⟩) (Dm.mergeL la lb)) := i25
            have I205 : Hid (IntsIn w25 (some ⟨g20, 0, none⟩) (Dm.mergeL la lb)) := I20.out.below hb25
            clear i25 hb25
            go_wp2_with fail
            refine (same_0 w25).mono ?_
            rintro e w' ⟨rfl, hw⟩
            have hw2 := hw.symm; subst hw2; clear hw
            go_wp2_with fail
            refine (ints_same (some ⟨g25, 0, none⟩) (some ⟨g20, 0, none⟩) 8 8 cap20 _ w25 HML.out (by decide) I25.out I205.out).mono ?_
            rintro e w26 ⟨rfl, hb26⟩
            have K26 : Hid (Below (w.alloc (.cells #[.int .i64 who, .int .i64 m] 24)).heap.size (w.alloc (.cells #[.int .i64 who, .int .i64 m] 24)) w26) := bel K25.out hb26
            clear hb26
            have CC := compare_any (some ⟨b, o, none⟩) (some ⟨b2, o2, none⟩) 8 8 ca cb la lb w26 HA.out HB.out (IA.out.below K26.out) (IB.out.below K26.out)
            rw [HCK.out, HCB.out, HBO.out, errV_zero] at CC
            go_wp2_with fail
            refine CC.mono ?_
            rintro e w27 ⟨rfl, hb27⟩
            have K27 : Hid (Below (w.alloc (.cells #[.int .i64 who, .int .i64 m] 24)).heap.size (w.alloc (.cells #[.int .i64 who, .int .i64 m] 24)) w27) := bel K26.out hb27
            clear CC hb27
            go_wp2_with fail
            refine (same_0 w27).mono ?_
            rintro e w' ⟨rfl, hw⟩
            have hw2 := hw.symm; subst hw2; clear hw
            obtain ⟨nx, hnx⟩ : ∃ nx, nx = (Dm.parseV s.data.toList).length := ⟨_, rfl⟩
            obtain ⟨ex, hex⟩ : ∃ ex, ex = Dm.parseE s.data.toList := ⟨_, rfl⟩
            have hnxb : nx ≤ 1048576 := by
              rw [hnx]
              exact Nat.le_trans (parse_len _) (by decide)
            have HNX : Hid ((Dm.parseV s.data.toList).length = nx) := hnx.symm
            have CR := read_any s w27 HS.out
            rw [← hnx, ← hex] at CR
            go_wp2_with fail
            refine CR.mono ?_
            rintro e w31 ⟨p31, c31, rfl, i31, hb31⟩
            have K31 : Hid (Below (w.alloc (.cells #[.int .i64 who, .int .i64 m] 24)).heap.size (w.alloc (.cells #[.int .i64 who, .int .i64 m] 24)) w31) := bel K27.out hb31
            have I31 : Hid (IntsIn w31 p31 (Dm.parseV s.data.toList)) := i31
            clear CR i31 hb31
            have CP := parse_any s w31 HS.out (HL.out.below K31.out)
            rw [← hnx, ← hex] at CP
            clear hnx hex
            go_wp2_with fail
            refine CP.mono ?_
            rintro e w32 ⟨p32, c32, rfl, i32, hb32⟩
            have K32 : Hid (Below (w.alloc (.cells #[.int .i64 who, .int .i64 m] 24)).heap.size (w.alloc (.cells #[.int .i64 who, .int .i64 m] 24)) w32) := bel K31.out hb32
            have I32 : Hid (IntsIn w32 p32 (Dm.parseV s.data.toList)) := i32
            have I312 : Hid (IntsIn w32 p31 (Dm.parseV s.data.toList)) := I31.out.below hb32
            clear CP i32 hb32
            go_wp2_with fail
            refine (same_self ex w32 (ET.below HG.out K32.out)).mono ?_
            rintro e w33 ⟨rfl, hb33⟩
            have K33 : Hid (Below (w.alloc (.cells #[.int .i64 who, .int .i64 m] 24)).heap.size (w.alloc (.cells #[.int .i64 who, .int .i64 m] 24)) w33) := bel K32.out hb33
            have I33 : Hid (IntsIn w33 p32 (Dm.parseV s.data.toList)) := I32.out.below hb33
            have I313 : Hid (IntsIn w33 p31 (Dm.parseV s.data.toList)) := I312.out.below hb33
            clear hb33
            go_wp2_with fail
            refine (ints_same p32 p31 nx c32 c31 _ w33 HNX.out hnxb I33.out I313.out).mono ?_
            rintro e w34 ⟨rfl, hb34⟩
            have K34 : Hid (Below (w.alloc (.cells #[.int .i64 who, .int .i64 m] 24)).heap.size (w.alloc (.cells #[.int .i64 who, .int .i64 m] 24)) w34) := bel K33.out hb34
            clear hb34
            go_wp2_with fail
            all_goals
              go_ret
              exact ⟨by first | rfl | (refine ret_bool ?_; simp [*]), bel HBX.out K34.out⟩
          · have HCK : Hid (Dm.cmpK la lb = 1) := by unfold Hid; rw [HKI.out]; unfold Dm.cmpI; rw [hm1, hm2]; rfl
            have HCB : Hid (Dm.cmpB la lb = true) := by unfold Hid; rw [HBB.out, hm1, hm2]; rfl
            clear hm1 hm2 HKI HBB
            go_wp2_with fail
            refine (merge_gg (some ⟨b, o, none⟩) (some ⟨b2, o2, none⟩) 8 8 ca cb la lb wr HA.out HB.out (IA.out.below KR.out) (IB.out.below KR.out) HBO.out).mono ?_
            rintro e w25 ⟨g25, rfl, i25, hb25⟩
            have K25 : Hid (Below (w.alloc (.cells #[.int .i64 who, .int .i64 m] 24)).heap.size (w.alloc (.cells #[.int .i64 who, .int .i64 m] 24)) w25) := bel KR.out hb25
            have I25 : Hid (IntsIn w25 (some ⟨g25, 0, none⟩) (Dm.mergeL la lb)) := i25
            have I205 : Hid (IntsIn w25 (some ⟨g20, 0, none⟩) (Dm.mergeL la lb)) := I20.out.below hb25
            clear i25 hb25
            go_wp2_with fail
            refine (same_0 w25).mono ?_
            rintro e w' ⟨rfl, hw⟩
            have hw2 := hw.symm; subst hw2; clear hw
            go_wp2_with fail
            refine (ints_same (some ⟨g25, 0, none⟩) (some ⟨g20, 0, none⟩) 8 8 cap20 _ w25 HML.out (by decide) I25.out I205.out).mono ?_
            rintro e w26 ⟨rfl, hb26⟩
            have K26 : Hid (Below (w.alloc (.cells #[.int .i64 who, .int .i64 m] 24)).heap.size (w.alloc (.cells #[.int .i64 who, .int .i64 m] 24)) w26) := bel K25.out hb26
            clear hb26
            have CC := compare_any (some ⟨b, o, none⟩) (some ⟨b2, o2, none⟩) 8 8 ca cb la lb w26 HA.out HB.out (IA.out.below K26.out) (IB.out.below K26.out)
            rw [HCK.out, HCB.out, HBO.out, errV_zero] at CC
            go_wp2_with fail
            refine CC.mono ?_
            rintro e w27 ⟨rfl, hb27⟩
            have K27 : Hid (Below (w.alloc (.cells #[.int .i64 who, .int .i64 m] 24)).heap.size (w.alloc (.cells #[.int .i64 who, .int .i64 m] 24)) w27) := bel K26.out hb27
            clear CC hb27
            go_wp2_with fail
            refine (same_0 w27).mono ?_
            rintro e w' ⟨rfl, hw⟩
            have hw2 := hw.symm; subst hw2; clear hw
            obtain ⟨nx, hnx⟩ : ∃ nx, nx = (Dm.parseV s.data.toList).length := ⟨_, rfl⟩
            obtain ⟨ex, hex⟩ : ∃ ex, ex = Dm.parseE s.data.toList := ⟨_, rfl⟩
            have hnxb : nx ≤ 1048576 := by
              rw [hnx]
              exact Nat.le_trans (parse_len _) (by decide)
            have HNX : Hid ((Dm.parseV s.data.toList).length = nx) := hnx.symm
            have CR := read_any s w27 HS.out
            rw [← hnx, ← hex] at CR
            go_wp2_with fail
            refine CR.mono ?_
            rintro e w31 ⟨p31, c31, rfl, i31, hb31⟩
            have K31 : Hid (Below (w.alloc (.cells #[.int .i64 who, .int .i64 m] 24)).heap.size (w.alloc (.cells #[.int .i64 who, .int .i64 m] 24)) w31) := bel K27.out hb31
            have I31 : Hid (IntsIn w31 p31 (Dm.parseV s.data.toList)) := i31
            clear CR i31 hb31
            have CP := parse_any s w31 HS.out (HL.out.below K31.out)
            rw [← hnx, ← hex] at CP
            clear hnx hex
            go_wp2_with fail
            refine CP.mono ?_
            rintro e w32 ⟨p32, c32, rfl, i32, hb32⟩
            have K32 : Hid (Below (w.alloc (.cells #[.int .i64 who, .int .i64 m] 24)).heap.size (w.alloc (.cells #[.int .i64 who, .int .i64 m] 24)) w32) := bel K31.out hb32
            have I32 : Hid (IntsIn w32 p32 (Dm.parseV s.data.toList)) := i32
            have I312 : Hid (IntsIn w32 p31 (Dm.parseV s.data.toList)) := I31.out.below hb32
            clear CP i32 hb32
            go_wp2_with fail
            refine (same_self ex w32 (ET.below HG.out K32.out)).mono ?_
            rintro e w33 ⟨rfl, hb33⟩
            have K33 : Hid (Below (w.alloc (.cells #[.int .i64 who, .int .i64 m] 24)).heap.size (w.alloc (.cells #[.int .i64 who, .int .i64 m] 24)) w33) := bel K32.out hb33
            have I33 : Hid (IntsIn w33 p32 (Dm.parseV s.data.toList)) := I32.out.below hb33
            have I313 : Hid (IntsIn w33 p31 (Dm.parseV s.data.toList)) := I312.out.below hb33
            clear hb33
            go_wp2_with fail
            refine (ints_same p32 p31 nx c32 c31 _ w33 HNX.out hnxb I33.out I313.out).mono ?_
            rintro e w34 ⟨rfl, hb34⟩
            have K34 : Hid (Below (w.alloc (.cells #[.int .i64 who, .int .i64 m] 24)).heap.size (w.alloc (.cells #[.int .i64 who, .int .i64 m] 24)) w34) := bel K33.out hb34
            clear hb34
            go_wp2_with fail
            all_goals
              go_ret
              exact ⟨by first | rfl | (refine ret_bool ?_; simp [*]), bel HBX.out K34.out⟩
          · have HCK : Hid (Dm.cmpK la lb = 0) := by unfold Hid; rw [HKI.out]; unfold Dm.cmpI; rw [hm1, hm2]; rfl
            have HCB : Hid (Dm.cmpB la lb = false) := by unfold Hid; rw [HBB.out, hm1, hm2]; rfl
            clear hm1 hm2 HKI HBB
            go_wp2_with fail
            refine (merge_gg (some ⟨b, o, none⟩) (some ⟨b2, o2, none⟩) 8 8 ca cb la lb wr HA.out HB.out (IA.out.below KR.out) (IB.out.below KR.out) HBO.out).mono ?_
            rintro e w25 ⟨g25, rfl, i25, hb25⟩
            have K25 : Hid (Below (w.alloc (.cells #[.int .i64 who, .int .i64 m] 24)).heap.size (w.alloc (.cells #[.int .i64 who, .int .i64 m] 24)) w25) := bel KR.out hb25
            have I25 : Hid (IntsIn w25 (some ⟨g25, 0, none⟩) (Dm.mergeL la lb)) := i25
            have I205 : Hid (IntsIn w25 (some ⟨g20, 0, none⟩) (Dm.mergeL la lb)) := I20.out.below hb25
            clear i25 hb25
            go_wp2_with fail
            refine (same_0 w25).mono ?_
            rintro e w' ⟨rfl, hw⟩
            have hw2 := hw.symm; subst hw2; clear hw
            go_wp2_with fail
            refine (ints_same (some ⟨g25, 0, none⟩) (some ⟨g20, 0, none⟩) 8 8 cap20 _ w25 HML.out (by decide) I25.out I205.out).mono ?_
            rintro e w26 ⟨rfl, hb26⟩
            have K26 : Hid (Below (w.alloc (.cells #[.int .i64 who, .int .i64 m] 24)).heap.size (w.alloc (.cells #[.int .i64 who, .int .i64 m] 24)) w26) := bel K25.out hb26
            clear hb26
            have CC := compare_any (some ⟨b, o, none⟩) (some ⟨b2, o2, none⟩) 8 8 ca cb la lb w26 HA.out HB.out (IA.out.below K26.out) (IB.out.below K26.out)
            rw [HCK.out, HCB.out, HBO.out, errV_zero] at CC
            go_wp2_with fail
            refine CC.mono ?_
            rintro e w27 ⟨rfl, hb27⟩
            have K27 : Hid (Below (w.alloc (.cells #[.int .i64 who, .int .i64 m] 24)).heap.size (w.alloc (.cells #[.int .i64 who, .int .i64 m] 24)) w27) := bel K26.out hb27
            clear CC hb27
            go_wp2_with fail
            refine (same_0 w27).mono ?_
            rintro e w' ⟨rfl, hw⟩
            have hw2 := hw.symm; subst hw2; clear hw
            obtain ⟨nx, hnx⟩ : ∃ nx, nx = (Dm.parseV s.data.toList).length := ⟨_, rfl⟩
            obtain ⟨ex, hex⟩ : ∃ ex, ex = Dm.parseE s.data.toList := ⟨_, rfl⟩
            have hnxb : nx ≤ 1048576 := by
              rw [hnx]
              exact Nat.le_trans (parse_len _) (by decide)
            have HNX : Hid ((Dm.parseV s.data.toList).length = nx) := hnx.symm
            have CR := read_any s w27 HS.out
            rw [← hnx, ← hex] at CR
            go_wp2_with fail
            refine CR.mono ?_
            rintro e w31 ⟨p31, c31, rfl, i31, hb31⟩
            have K31 : Hid (Below (w.alloc (.cells #[.int .i64 who, .int .i64 m] 24)).heap.size (w.alloc (.cells #[.int .i64 who, .int .i64 m] 24)) w31) := bel K27.out hb31
            have I31 : Hid (IntsIn w31 p31 (Dm.parseV s.data.toList)) := i31
            clear CR i31 hb31
            have CP := parse_any s w31 HS.out (HL.out.below K31.out)
            rw [← hnx, ← hex] at CP
            clear hnx hex
            go_wp2_with fail
            refine CP.mono ?_
            rintro e w32 ⟨p32, c32, rfl, i32, hb32⟩
            have K32 : Hid (Below (w.alloc (.cells #[.int .i64 who, .int .i64 m] 24)).heap.size (w.alloc (.cells #[.int .i64 who, .int .i64 m] 24)) w32) := bel K31.out hb32
            have I32 : Hid (IntsIn w32 p32 (Dm.parseV s.data.toList)) := i32
            have I312 : Hid (IntsIn w32 p31 (Dm.parseV s.data.toList)) := I31.out.below hb32
            clear CP i32 hb32
            go_wp2_with fail
            refine (same_self ex w32 (ET.below HG.out K32.out)).mono ?_
            rintro e w33 ⟨rfl, hb33⟩
            have K33 : Hid (Below (w.alloc (.cells #[.int .i64 who, .int .i64 m] 24)).heap.size (w.alloc (.cells #[.int .i64 who, .int .i64 m] 24)) w33) := bel K32.out hb33
            have I33 : Hid (IntsIn w33 p32 (Dm.parseV s.data.toList)) := I32.out.below hb33
            have I313 : Hid (IntsIn w33 p31 (Dm.parseV s.data.toList)) := I312.out.below hb33
            clear hb33
            go_wp2_with fail
            refine (ints_same p32 p31 nx c32 c31 _ w33 HNX.out hnxb I33.out I313.out).mono ?_
            rintro e w34 ⟨rfl, hb34⟩
            have K34 : Hid (Below (w.alloc (.cells #[.int .i64 who, .int .i64 m] 24)).heap.size (w.alloc (.cells #[.int .i64 who, .int .i64 m] 24)) w34) := bel K33.out hb34
            clear hb34
            go_wp2_with fail
            all_goals
              go_ret
              exact ⟨by first | rfl | (refine ret_bool ?_; simp [*]), bel HBX.out K34.out⟩

end Ta
end Go.Proofs.YtllcmfbkingfdaaGreatDoor
