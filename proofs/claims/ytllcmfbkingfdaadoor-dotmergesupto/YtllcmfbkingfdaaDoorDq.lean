/- The walk of the law DotMerges, the other ways. -/
import Derived.Test.YtllcmfbkingfdaaDoorDp
namespace Go.Proofs.YtllcmfbkingfdaaDoor
namespace Do
set_option linter.unusedVariables false
open Go.ChangeShapes Go.WideShapes Go.ChangeAt Go.RowKit Za Db Dg Dh Di Dl

set_option maxHeartbeats 4000000 in
set_option maxRecDepth 100000 in
theorem walk_noA1 (pa pb pc : Option Addr) (na nb nc ca cb cc : Nat) (la lb lc : List Int) (s : ByteArray) (w : World) (ha : la.length = na) (hb : lb.length = nb) (hc : lc.length = nc) (hna : na ≤ 1048576) (ia : IntsIn w pa la) (ib : IntsIn w pb lb) (ic : IntsIn w pc lc) (hs : s.size ≤ 1048576) (hL : Lib3 w)
    (hpe : Dm.parseE s.data.toList ≠ 0) (hva : Dm.vecE la ≠ 0) :
    Calls Tryd.prog 3 #[.slice pa na ca, .slice pb nb cb, .slice pc nc cc, .string s] w fun e w' => e = .returned (.bool true) ∧ Below w.heap.size w w' := by
  have HA : Hid (la.length = na) := ha
  have HB : Hid (lb.length = nb) := hb
  have HC : Hid (lc.length = nc) := hc
  have HNA : Hid (na ≤ 1048576) := hna
  have IA : Hid (IntsIn w pa la) := ia
  have IB : Hid (IntsIn w pb lb) := ib
  have IC : Hid (IntsIn w pc lc) := ic
  have HL : Hid (Lib3 w) := hL
  have HS : Hid (s.size ≤ 1048576) := hs
  clear hs
  have HPE : Hid (Dm.parseE s.data.toList ≠ 0) := hpe
  clear hpe
  have HVA : Hid (Dm.vecE la ≠ 0) := hva
  have HAB : Hid (Dm.bothE la lb ≠ 0) := fun h => hva (Dm.bothE_zero.1 h).1
  clear hva
  clear ha hb hc hna ia ib ic hL
  have C := merge_g (some ⟨w.heap.size, 0, none⟩) (some ⟨w.heap.size + 1, 0, none⟩) 8 8 8 8 _ _ (wA w) rfl rfl (one_in w) (two_in w) (by decide)
  go_enter Tryd.func3, Tryd.ntmps3
  go_wp2_with fail
  refine C.mono ?_
  rintro e w1 ⟨g0, rfl, hin, hb1⟩
  have K1 : Hid (Below w.heap.size w w1) := bel (wA_below w) hb1
  obtain ⟨f0, f1⟩ := fact_ok hin
  clear hin hb1 C
  go_wp2_with fail
  refine (parse_any s w1 HS.out (HL.out.below K1.out)).mono ?_
  rintro e w2 ⟨px, cx, rfl, hix, hb2⟩
  have K2 : Hid (Below w.heap.size w w2) := bel K1.out hb2
  clear hb2 f0 f1
  rw [errV_ne HPE.out]
  obtain ⟨nx, hnx⟩ : ∃ nx, nx = (Dm.parseV s.data.toList).length := ⟨_, rfl⟩
  rw [← hnx]
  obtain ⟨kx, hkx⟩ : ∃ kx, kx = Dm.parseE s.data.toList := ⟨_, rfl⟩
  rw [← hkx]
  have K3 : Hid (Below w.heap.size w w2) := K2.out
  clear hnx hix hkx
  have hw3 : ∃ w3, w3 = w2 := ⟨_, rfl⟩
  clear hw3
  go_wp2_with fail
  refine (print_no pa na ca la _ HA.out (IA.out.below K3.out) HVA.out).mono ?_
  rintro e w' ⟨rfl, hw⟩
  have hw2 := hw.symm; subst hw2; clear hw
  obtain ⟨ka, hka⟩ : ∃ ka, ka = Dm.vecE la := ⟨_, rfl⟩
  rw [← hka]
  clear hka
  have K5 := K3
  go_wp2_with fail
  refine (merge_no pa pb na nb ca cb la lb _ HA.out HB.out (IA.out.below K5.out) (IB.out.below K5.out) HAB.out).mono ?_
  rintro e w' ⟨rfl, hw⟩
  have hw2 := hw.symm; subst hw2; clear hw
  obtain ⟨kk, hkk⟩ : ∃ kk, kk = Dm.bothE la lb := ⟨_, rfl⟩
  rw [← hkk]
  clear hkk
  go_wp2_with fail
  refine (merge_o pb pa nb na cb ca lb la _ HB.out HA.out (IB.out.below K5.out) (IA.out.below K5.out)).mono ?_
  rintro e w7 ⟨p7, n7, c7, e7, l7, rfl, h7, i7, hb7⟩
  have K7 : Hid (Below w.heap.size w w7) := bel K5.out hb7
  clear h7 i7 hb7
  go_wp2_with fail
  refine (merge_o none pc 0 nc 0 cc [] lc _ rfl HC.out (IntsIn.nil _ _) (IC.out.below K7.out)).mono ?_
  rintro e w8 ⟨p8, n8, c8, e8, l8, rfl, h8, i8, hb8⟩
  have K8 : Hid (Below w.heap.size w w8) := bel K7.out hb8
  clear h8 i8 hb8
  go_wp2_with fail
  refine (merge_o pb pc nb nc cb cc lb lc _ HB.out HC.out (IB.out.below K8.out) (IC.out.below K8.out)).mono ?_
  rintro e w9 ⟨p9, n9, c9, e9, l9, rfl, h9, i9, hb9⟩
  have K9 : Hid (Below w.heap.size w w9) := bel K8.out hb9
  have H9 : Hid (l9.length = n9) := h9
  have I9 : Hid (IntsIn w9 p9 l9) := i9
  clear h9 i9 hb9
  go_wp2_with fail
  refine (merge_o pa p9 na n9 ca c9 la l9 _ HA.out H9.out (IA.out.below K9.out) I9.out).mono ?_
  rintro e w10 ⟨p10, n10, c10, e10, l10, rfl, h10, i10, hb10⟩
  have K10 : Hid (Below w.heap.size w w10) := bel K9.out hb10
  clear h10 i10 hb10
  go_wp2_with fail
  go_ret
  exact ⟨rfl, K10.out⟩

set_option maxHeartbeats 4000000 in
set_option maxRecDepth 100000 in
theorem walk_noA2 (pa pb pc : Option Addr) (na nb nc ca cb cc : Nat) (la lb lc : List Int) (s : ByteArray) (w : World) (ha : la.length = na) (hb : lb.length = nb) (hc : lc.length = nc) (hna : na ≤ 1048576) (ia : IntsIn w pa la) (ib : IntsIn w pb lb) (ic : IntsIn w pc lc) (hs : s.size ≤ 1048576) (hL : Lib3 w)
    (hpe : Dm.parseE s.data.toList ≠ 0) (hva : Dm.vecE la = 0) (hvb : Dm.vecE lb ≠ 0) :
    Calls Tryd.prog 3 #[.slice pa na ca, .slice pb nb cb, .slice pc nc cc, .string s] w fun e w' => e = .returned (.bool true) ∧ Below w.heap.size w w' := by
  have HA : Hid (la.length = na) := ha
  have HB : Hid (lb.length = nb) := hb
  have HC : Hid (lc.length = nc) := hc
  have HNA : Hid (na ≤ 1048576) := hna
  have IA : Hid (IntsIn w pa la) := ia
  have IB : Hid (IntsIn w pb lb) := ib
  have IC : Hid (IntsIn w pc lc) := ic
  have HL : Hid (Lib3 w) := hL
  have HS : Hid (s.size ≤ 1048576) := hs
  clear hs
  have HPE : Hid (Dm.parseE s.data.toList ≠ 0) := hpe
  clear hpe
  have HVA : Hid (Dm.vecE la = 0) := hva
  have HAB : Hid (Dm.bothE la lb ≠ 0) := fun h => hvb (Dm.bothE_zero.1 h).2
  clear hva hvb
  clear ha hb hc hna ia ib ic hL
  have C := merge_g (some ⟨w.heap.size, 0, none⟩) (some ⟨w.heap.size + 1, 0, none⟩) 8 8 8 8 _ _ (wA w) rfl rfl (one_in w) (two_in w) (by decide)
  go_enter Tryd.func3, Tryd.ntmps3
  go_wp2_with fail
  refine C.mono ?_
  rintro e w1 ⟨g0, rfl, hin, hb1⟩
  have K1 : Hid (Below w.heap.size w w1) := bel (wA_below w) hb1
  obtain ⟨f0, f1⟩ := fact_ok hin
  clear hin hb1 C
  go_wp2_with fail
  refine (parse_any s w1 HS.out (HL.out.below K1.out)).mono ?_
  rintro e w2 ⟨px, cx, rfl, hix, hb2⟩
  have K2 : Hid (Below w.heap.size w w2) := bel K1.out hb2
  clear hb2 f0 f1
  rw [errV_ne HPE.out]
  obtain ⟨nx, hnx⟩ : ∃ nx, nx = (Dm.parseV s.data.toList).length := ⟨_, rfl⟩
  rw [← hnx]
  obtain ⟨kx, hkx⟩ : ∃ kx, kx = Dm.parseE s.data.toList := ⟨_, rfl⟩
  rw [← hkx]
  have K3 : Hid (Below w.heap.size w w2) := K2.out
  clear hnx hix hkx
  have hw3 : ∃ w3, w3 = w2 := ⟨_, rfl⟩
  clear hw3
  obtain ⟨t, ht⟩ : ∃ t : ByteArray, t = ⟨(Dm.printT la).toArray⟩ := ⟨_, rfl⟩
  have HT : Hid (t = ⟨(Dm.printT la).toArray⟩) := ht
  have HTS : Hid (t.size ≤ 1048576 ∧ Dm.parseE t.data.toList = 0 ∧ Dm.parseV t.data.toList = la) := by
    have h1 : t.data.toList = Dm.printT la := by rw [ht]
    refine ⟨?_, ?_, ?_⟩
    · have h2 : t.size = (Dm.printT la).length := by rw [← h1]; rfl
      rw [h2]
      exact Nat.le_trans (Dm.print_len HVA.out) (by decide)
    · rw [h1]; exact (Dm.parse_print HVA.out).1
    · rw [h1]; exact (Dm.parse_print HVA.out).2
  clear ht
  go_wp2_with fail
  refine (print_yes pa na ca la _ HA.out (IA.out.below K3.out) (HL.out.below K3.out) HVA.out t HT.out).mono ?_
  rintro e w4 ⟨rfl, hb4⟩
  have K4 : Hid (Below w.heap.size w w4) := bel K3.out hb4
  clear hb4
  go_wp2_with fail
  refine (parse_any t w4 HTS.out.1 (HL.out.below K4.out)).mono ?_
  rintro e w5a ⟨py, cy, rfl, hiy, hb5⟩
  rw [HTS.out.2.1, HTS.out.2.2, errV_zero, HA.out]
  rw [HTS.out.2.2] at hiy
  have K5a : Hid (Below w.heap.size w w5a) := bel K4.out hb5
  have HIY : Hid (IntsIn w5a py la) := hiy
  clear hb5 hiy
  go_wp2_with fail
  refine (ints_any py pa na na cy ca la la w5a HA.out HA.out HNA.out HIY.out (IA.out.below K5a.out)).mono ?_
  rintro e w5 ⟨rfl, hb5⟩
  rw [show (la == la) = true from by simp]
  have K5 : Hid (Below w.heap.size w w5) := bel K5a.out hb5
  clear hb5
  go_wp2_with fail
  refine (merge_no pa pb na nb ca cb la lb _ HA.out HB.out (IA.out.below K5.out) (IB.out.below K5.out) HAB.out).mono ?_
  rintro e w' ⟨rfl, hw⟩
  have hw2 := hw.symm; subst hw2; clear hw
  obtain ⟨kk, hkk⟩ : ∃ kk, kk = Dm.bothE la lb := ⟨_, rfl⟩
  rw [← hkk]
  clear hkk
  go_wp2_with fail
  refine (merge_o pb pa nb na cb ca lb la _ HB.out HA.out (IB.out.below K5.out) (IA.out.below K5.out)).mono ?_
  rintro e w7 ⟨p7, n7, c7, e7, l7, rfl, h7, i7, hb7⟩
  have K7 : Hid (Below w.heap.size w w7) := bel K5.out hb7
  clear h7 i7 hb7
  go_wp2_with fail
  refine (merge_o none pc 0 nc 0 cc [] lc _ rfl HC.out (IntsIn.nil _ _) (IC.out.below K7.out)).mono ?_
  rintro e w8 ⟨p8, n8, c8, e8, l8, rfl, h8, i8, hb8⟩
  have K8 : Hid (Below w.heap.size w w8) := bel K7.out hb8
  clear h8 i8 hb8
  go_wp2_with fail
  refine (merge_o pb pc nb nc cb cc lb lc _ HB.out HC.out (IB.out.below K8.out) (IC.out.below K8.out)).mono ?_
  rintro e w9 ⟨p9, n9, c9, e9, l9, rfl, h9, i9, hb9⟩
  have K9 : Hid (Below w.heap.size w w9) := bel K8.out hb9
  have H9 : Hid (l9.length = n9) := h9
  have I9 : Hid (IntsIn w9 p9 l9) := i9
  clear h9 i9 hb9
  go_wp2_with fail
  refine (merge_o pa p9 na n9 ca c9 la l9 _ HA.out H9.out (IA.out.below K9.out) I9.out).mono ?_
  rintro e w10 ⟨p10, n10, c10, e10, l10, rfl, h10, i10, hb10⟩
  have K10 : Hid (Below w.heap.size w w10) := bel K9.out hb10
  clear h10 i10 hb10
  go_wp2_with fail
  go_ret
  exact ⟨rfl, K10.out⟩

set_option maxHeartbeats 4000000 in
set_option maxRecDepth 100000 in
theorem walk_noB (pa pb pc : Option Addr) (na nb nc ca cb cc : Nat) (la lb lc : List Int) (s : ByteArray) (w : World) (ha : la.length = na) (hb : lb.length = nb) (hc : lc.length = nc) (hna : na ≤ 1048576) (ia : IntsIn w pa la) (ib : IntsIn w pb lb) (ic : IntsIn w pc lc) (hs : s.size ≤ 1048576) (hL : Lib3 w)
    (hpe : Dm.parseE s.data.toList ≠ 0) (hva : Dm.vecE la = 0) (hvb : Dm.vecE lb = 0) (hvc : Dm.vecE lc ≠ 0) :
    Calls Tryd.prog 3 #[.slice pa na ca, .slice pb nb cb, .slice pc nc cc, .string s] w fun e w' => e = .returned (.bool true) ∧ Below w.heap.size w w' := by
  have HA : Hid (la.length = na) := ha
  have HB : Hid (lb.length = nb) := hb
  have HC : Hid (lc.length = nc) := hc
  have HNA : Hid (na ≤ 1048576) := hna
  have IA : Hid (IntsIn w pa la) := ia
  have IB : Hid (IntsIn w pb lb) := ib
  have IC : Hid (IntsIn w pc lc) := ic
  have HL : Hid (Lib3 w) := hL
  have HS : Hid (s.size ≤ 1048576) := hs
  clear hs
  have HPE : Hid (Dm.parseE s.data.toList ≠ 0) := hpe
  clear hpe
  have HVA : Hid (Dm.vecE la = 0) := hva
  have HVB : Hid (Dm.vecE lb = 0) := hvb
  have HXC : Hid (Dm.bothE (Dm.mergeL la lb) lc ≠ 0) := fun h => hvc (Dm.bothE_zero.1 h).2
  clear hva hvb hvc
  clear ha hb hc hna ia ib ic hL
  have C := merge_g (some ⟨w.heap.size, 0, none⟩) (some ⟨w.heap.size + 1, 0, none⟩) 8 8 8 8 _ _ (wA w) rfl rfl (one_in w) (two_in w) (by decide)
  go_enter Tryd.func3, Tryd.ntmps3
  go_wp2_with fail
  refine C.mono ?_
  rintro e w1 ⟨g0, rfl, hin, hb1⟩
  have K1 : Hid (Below w.heap.size w w1) := bel (wA_below w) hb1
  obtain ⟨f0, f1⟩ := fact_ok hin
  clear hin hb1 C
  go_wp2_with fail
  refine (parse_any s w1 HS.out (HL.out.below K1.out)).mono ?_
  rintro e w2 ⟨px, cx, rfl, hix, hb2⟩
  have K2 : Hid (Below w.heap.size w w2) := bel K1.out hb2
  clear hb2 f0 f1
  rw [errV_ne HPE.out]
  obtain ⟨nx, hnx⟩ : ∃ nx, nx = (Dm.parseV s.data.toList).length := ⟨_, rfl⟩
  rw [← hnx]
  obtain ⟨kx, hkx⟩ : ∃ kx, kx = Dm.parseE s.data.toList := ⟨_, rfl⟩
  rw [← hkx]
  have K3 : Hid (Below w.heap.size w w2) := K2.out
  clear hnx hix hkx
  have hw3 : ∃ w3, w3 = w2 := ⟨_, rfl⟩
  clear hw3
  obtain ⟨t, ht⟩ : ∃ t : ByteArray, t = ⟨(Dm.printT la).toArray⟩ := ⟨_, rfl⟩
  have HT : Hid (t = ⟨(Dm.printT la).toArray⟩) := ht
  have HTS : Hid (t.size ≤ 1048576 ∧ Dm.parseE t.data.toList = 0 ∧ Dm.parseV t.data.toList = la) := by
    have h1 : t.data.toList = Dm.printT la := by rw [ht]
    refine ⟨?_, ?_, ?_⟩
    · have h2 : t.size = (Dm.printT la).length := by rw [← h1]; rfl
      rw [h2]
      exact Nat.le_trans (Dm.print_len HVA.out) (by decide)
    · rw [h1]; exact (Dm.parse_print HVA.out).1
    · rw [h1]; exact (Dm.parse_print HVA.out).2
  clear ht
  go_wp2_with fail
  refine (print_yes pa na ca la _ HA.out (IA.out.below K3.out) (HL.out.below K3.out) HVA.out t HT.out).mono ?_
  rintro e w4 ⟨rfl, hb4⟩
  have K4 : Hid (Below w.heap.size w w4) := bel K3.out hb4
  clear hb4
  go_wp2_with fail
  refine (parse_any t w4 HTS.out.1 (HL.out.below K4.out)).mono ?_
  rintro e w5a ⟨py, cy, rfl, hiy, hb5⟩
  rw [HTS.out.2.1, HTS.out.2.2, errV_zero, HA.out]
  rw [HTS.out.2.2] at hiy
  have K5a : Hid (Below w.heap.size w w5a) := bel K4.out hb5
  have HIY : Hid (IntsIn w5a py la) := hiy
  clear hb5 hiy
  go_wp2_with fail
  refine (ints_any py pa na na cy ca la la w5a HA.out HA.out HNA.out HIY.out (IA.out.below K5a.out)).mono ?_
  rintro e w5 ⟨rfl, hb5⟩
  rw [show (la == la) = true from by simp]
  have K5 : Hid (Below w.heap.size w w5) := bel K5a.out hb5
  clear hb5
  have HAB : Hid (Dm.bothE la lb = 0) := Dm.bothE_zero.2 ⟨HVA.out, HVB.out⟩
  have HBA : Hid (Dm.bothE lb la = 0) := Dm.bothE_zero.2 ⟨HVB.out, HVA.out⟩
  have HVX : Hid (Dm.vecE (Dm.mergeL la lb) = 0) := Dm.mergeL_vec HVA.out HVB.out
  have HLX : Hid ((Dm.mergeL la lb).length = 8) := (Dm.vecE_zero.1 HVX.out).1
  go_wp2_with fail
  refine (merge_g pa pb na nb ca cb la lb _ HA.out HB.out (IA.out.below K5.out) (IB.out.below K5.out) HAB.out).mono ?_
  rintro e w6 ⟨g6, rfl, i6, hb6⟩
  have K6 : Hid (Below w.heap.size w w6) := bel K5.out hb6
  have I6 : Hid (IntsIn w6 (some ⟨g6, 0, none⟩) (Dm.mergeL la lb)) := i6
  clear i6 hb6
  go_wp2_with fail
  refine (merge_g pb pa nb na cb ca lb la _ HB.out HA.out (IB.out.below K6.out) (IA.out.below K6.out) HBA.out).mono ?_
  rintro e w7 ⟨g7, rfl, i7, hb7⟩
  have K7 : Hid (Below w.heap.size w w7) := bel K6.out hb7
  have I67 : Hid (IntsIn w7 (some ⟨g6, 0, none⟩) (Dm.mergeL la lb)) := I6.out.below hb7
  have I7 : Hid (IntsIn w7 (some ⟨g7, 0, none⟩) (Dm.mergeL la lb)) := by rw [Dm.mergeL_comm la lb]; exact i7
  clear i7 hb7
  go_wp2_with fail
  refine (merge_no (some ⟨g6, 0, none⟩) pc 8 nc 8 cc (Dm.mergeL la lb) lc _ HLX.out HC.out I67.out (IC.out.below K7.out) HXC.out).mono ?_
  rintro e w' ⟨rfl, hw⟩
  have hw2 := hw.symm; subst hw2; clear hw
  obtain ⟨kk, hkk⟩ : ∃ kk, kk = Dm.bothE (Dm.mergeL la lb) lc := ⟨_, rfl⟩
  rw [← hkk]
  clear hkk
  go_wp2_with fail
  refine (merge_o pb pc nb nc cb cc lb lc _ HB.out HC.out (IB.out.below K7.out) (IC.out.below K7.out)).mono ?_
  rintro e w9 ⟨p9, n9, c9, e9, l9, rfl, h9, i9, hb9⟩
  have K9 : Hid (Below w.heap.size w w9) := bel K7.out hb9
  have H9 : Hid (l9.length = n9) := h9
  have I9 : Hid (IntsIn w9 p9 l9) := i9
  clear h9 i9 hb9
  go_wp2_with fail
  refine (merge_o pa p9 na n9 ca c9 la l9 _ HA.out H9.out (IA.out.below K9.out) I9.out).mono ?_
  rintro e w10 ⟨p10, n10, c10, e10, l10, rfl, h10, i10, hb10⟩
  have K10 : Hid (Below w.heap.size w w10) := bel K9.out hb10
  clear h10 i10 hb10
  go_wp2_with fail
  go_ret
  exact ⟨rfl, K10.out⟩

theorem walk (pa pb pc : Option Addr) (na nb nc ca cb cc : Nat) (la lb lc : List Int) (s : ByteArray) (w : World) (ha : la.length = na) (hb : lb.length = nb) (hc : lc.length = nc) (hna : na ≤ 1048576) (ia : IntsIn w pa la) (ib : IntsIn w pb lb) (ic : IntsIn w pc lc) (hs : s.size ≤ 1048576) (hL : Lib3 w) :
    Calls Tryd.prog 3 #[.slice pa na ca, .slice pb nb cb, .slice pc nc cc, .string s] w fun e w' => e = .returned (.bool true) ∧ Below w.heap.size w w' := by
  by_cases hpe : Dm.parseE s.data.toList = 0
  · by_cases hva : Dm.vecE la = 0
    · by_cases hvb : Dm.vecE lb = 0
      · by_cases hvc : Dm.vecE lc = 0
        · exact walk_okC pa pb pc na nb nc ca cb cc la lb lc s w ha hb hc hna ia ib ic hs hL hpe hva hvb hvc
        · exact walk_okB pa pb pc na nb nc ca cb cc la lb lc s w ha hb hc hna ia ib ic hs hL hpe hva hvb hvc
      · exact walk_okA2 pa pb pc na nb nc ca cb cc la lb lc s w ha hb hc hna ia ib ic hs hL hpe hva hvb
    · exact walk_okA1 pa pb pc na nb nc ca cb cc la lb lc s w ha hb hc hna ia ib ic hs hL hpe hva
  · by_cases hva : Dm.vecE la = 0
    · by_cases hvb : Dm.vecE lb = 0
      · by_cases hvc : Dm.vecE lc = 0
        · exact walk_noC pa pb pc na nb nc ca cb cc la lb lc s w ha hb hc hna ia ib ic hs hL hpe hva hvb hvc
        · exact walk_noB pa pb pc na nb nc ca cb cc la lb lc s w ha hb hc hna ia ib ic hs hL hpe hva hvb hvc
      · exact walk_noA2 pa pb pc na nb nc ca cb cc la lb lc s w ha hb hc hna ia ib ic hs hL hpe hva hvb
    · exact walk_noA1 pa pb pc na nb nc ca cb cc la lb lc s w ha hb hc hna ia ib ic hs hL hpe hva

end Do
end Go.Proofs.YtllcmfbkingfdaaDoor
