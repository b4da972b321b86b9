/- The walk of the law DotMerges, the other ways. -/
import Derived.Test.YtllcmfbkingfdaaDoorDo
namespace Go.Proofs.YtllcmfbkingfdaaDoor
namespace Do
set_option linter.unusedVariables false
open Go.ChangeShapes Go.WideShapes Go.ChangeAt Go.RowKit Za Db Dg Dh Di Dl

set_option maxHeartbeats 4000000 in
set_option maxRecDepth 100000 in
theorem walk_okA2 (pa pb pc : Option Addr) (na nb nc ca cb cc : Nat) (la lb lc : List Int) (s : ByteArray) (w : World) (ha : la.length = na) (hb : lb.length = nb) (hc : lc.length = nc) (hna : na ≤ 1048576) (ia : IntsIn w pa la) (ib : IntsIn w pb lb) (ic : IntsIn w pc lc) (hs : s.size ≤ 1048576) (hL : Lib3 w)
    (hpe : Dm.parseE s.data.toList = 0) (hva : Dm.vecE la = 0) (hvb : Dm.vecE lb ≠ 0) :
    Calls Tryd.prog 3 #[.slice pa na ca, .slice pb nb cb, .slice pc nc cc, .string s] w fun e w' => e = .returned (.bool true) ∧ Below w.heap.size w w' := by
  have HA : Hid (la.length = na) := ha
  have HB : Hid (lb.length = nb) := hb
  have HC : Hid (lc.length = nc) := hc
  have HNA : Hid (na ≤ 1048576) := hna
  have IA : Hid (IntsIn w pa la) := ia
  have IB : Hid (IntsIn w pb lb) := ib
  have IC : Hid (IntsIn w pc lc) := ic
  have HL : Hid (Lib3 w) := hL
  have HS : Hid (s.size ≤ 1048576) := hs
  clear hs
  have HPE : Hid (Dm.parseE s.data.toList = 0) := hpe
  have HPP : Hid (Dm.vecE (Dm.parseV s.data.toList) = 0 ∧ Dm.printT (Dm.parseV s.data.toList) = s.data.toList) := Dm.print_parse hpe
  have HPT : Hid (s = ⟨(Dm.printT (Dm.parseV s.data.toList)).toArray⟩) := text_eq HPP.out.2
  clear hpe
  have HVA : Hid (Dm.vecE la = 0) := hva
  have HAB : Hid (Dm.bothE la lb ≠ 0) := fun h => hvb (Dm.bothE_zero.1 h).2
  clear hva hvb
  clear ha hb hc hna ia ib ic hL
  have C := merge_g (some ⟨w.heap.size, 0, none⟩) (some ⟨w.heap.size + 1, 0, none⟩) 8 8 8 8 _ _ (wA w) rfl rfl (one_in w) (two_in w) (by decide)
  go_enter Tryd.func3, Tryd.ntmps3
  go_wp2_with fail
  refine C.mono ?_
  rintro e w1 ⟨g0, rfl, hin, hb1⟩
  have K1 : Hid (Below w.heap.size w w1) := bel (wA_below w) hb1
  obtain ⟨f0, f1⟩ := fact_ok hin
  clear hin hb1 C
  go_wp2_with fail
  refine (parse_any s w1 HS.out (HL.out.below K1.out)).mono ?_
  rintro e w2 ⟨px, cx, rfl, hix, hb2⟩
  have K2 : Hid (Below w.heap.size w w2) := bel K1.out hb2
  clear hb2 f0 f1
  rw [HPE.out, errV_zero]
  obtain ⟨nx, hnx⟩ : ∃ nx, nx = (Dm.parseV s.data.toList).length := ⟨_, rfl⟩
  rw [← hnx]
  have HNX : Hid ((Dm.parseV s.data.toList).length = nx) := hnx.symm
  have HIX : Hid (IntsIn w2 px (Dm.parseV s.data.toList)) := hix
  clear hnx hix
  go_wp2_with fail
  refine (print_yes px nx cx _ w2 HNX.out HIX.out (HL.out.below K2.out) HPP.out.1 s HPT.out).mono ?_
  rintro e w3 ⟨rfl, hb3⟩
  have K3 : Hid (Below w.heap.size w w3) := bel K2.out hb3
  clear hb3
  obtain ⟨t, ht⟩ : ∃ t : ByteArray, t = ⟨(Dm.printT la).toArray⟩ := ⟨_, rfl⟩
  have HT : Hid (t = ⟨(Dm.printT la).toArray⟩) := ht
  have HTS : Hid (t.size ≤ 1048576 ∧ Dm.parseE t.data.toList = 0 ∧ Dm.parseV t.data.toList = la) := by
    have h1 : t.data.toList = Dm.printT la := by rw [ht]
    refine ⟨?_, ?_, ?_⟩
    · have h2 : t.size = (Dm.printT la).length := by rw [← h1]; rfl
      rw [h2]
      exact Nat.le_trans (Dm.print_len HVA.out) (by decide)
    · rw [h1]; exact (Dm.parse_print HVA.out).1
    · rw [h1]; exact (Dm.parse_print HVA.out).2
  clear ht
  go_wp2_with fail
  refine (print_yes pa na ca la _ HA.out (IA.out.below K3.out) (HL.out.below K3.out) HVA.out t HT.out).mono ?_
  rintro e w4 ⟨rfl, hb4⟩
  have K4 : Hid (Below w.heap.size w w4) := bel K3.out hb4
  clear hb4
  go_wp2_with fail
  refine (parse_any t w4 HTS.out.1 (HL.out.below K4.out)).mono ?_
  rintro e w5a ⟨py, cy, rfl, hiy, hb5⟩
  rw [HTS.out.2.1, HTS.out.2.2, errV_zero, HA.out]
  rw [HTS.out.2.2] at hiy
  have K5a : Hid (Below w.heap.size w w5a) := bel K4.out hb5
  have HIY : Hid (IntsIn w5a py la) := hiy
  clear hb5 hiy
  go_wp2_with fail
  refine (ints_any py pa na na cy ca la la w5a HA.out HA.out HNA.out HIY.out (IA.out.below K5a.out)).mono ?_
  rintro e w5 ⟨rfl, hb5⟩
  rw [show (la == la) = true from by simp]
  have K5 : Hid (Below w.heap.size w w5) := bel K5a.out hb5
  clear hb5
  go_wp2_with fail
  refine (merge_no pa pb na nb ca cb la lb _ HA.out HB.out (IA.out.below K5.out) (IB.out.below K5.out) HAB.out).mono ?_
  rintro e w' ⟨rfl, hw⟩
  have hw2 := hw.symm; subst hw2; clear hw
  obtain ⟨kk, hkk⟩ : ∃ kk, kk = Dm.bothE la lb := ⟨_, rfl⟩
  rw [← hkk]
  clear hkk
  go_wp2_with fail
  refine (merge_o pb pa nb na cb ca lb la _ HB.out HA.out (IB.out.below K5.out) (IA.out.below K5.out)).mono ?_
  rintro e w7 ⟨p7, n7, c7, e7, l7, rfl, h7, i7, hb7⟩
  have K7 : Hid (Below w.heap.size w w7) := bel K5.out hb7
  clear h7 i7 hb7
  go_wp2_with fail
  refine (merge_o none pc 0 nc 0 cc [] lc _ rfl HC.out (IntsIn.nil _ _) (IC.out.below K7.out)).mono ?_
  rintro e w8 ⟨p8, n8, c8, e8, l8, rfl, h8, i8, hb8⟩
  have K8 : Hid (Below w.heap.size w w8) := bel K7.out hb8
  clear h8 i8 hb8
  go_wp2_with fail
  refine (merge_o pb pc nb nc cb cc lb lc _ HB.out HC.out (IB.out.below K8.out) (IC.out.below K8.out)).mono ?_
  rintro e w9 ⟨p9, n9, c9, e9, l9, rfl, h9, i9, hb9⟩
  have K9 : Hid (Below w.heap.size w w9) := bel K8.out hb9
  have H9 : Hid (l9.length = n9) := h9
  have I9 : Hid (IntsIn w9 p9 l9) := i9
  clear h9 i9 hb9
  go_wp2_with fail
  refine (merge_o pa p9 na n9 ca c9 la l9 _ HA.out H9.out (IA.out.below K9.out) I9.out).mono ?_
  rintro e w10 ⟨p10, n10, c10, e10, l10, rfl, h10, i10, hb10⟩
  have K10 : Hid (Below w.heap.size w w10) := bel K9.out hb10
  clear h10 i10 hb10
  go_wp2_with fail
  go_ret
  exact ⟨rfl, K10.out⟩

set_option maxHeartbeats 4000000 in
set_option maxRecDepth 100000 in
theorem walk_okB (pa pb pc : Option Addr) (na nb nc ca cb cc : Nat) (la lb lc : List Int) (s : ByteArray) (w : World) (ha : la.length = na) (hb : lb.length = nb) (hc : lc.length = nc) (hna : na ≤ 1048576) (ia : IntsIn w pa la) (ib : IntsIn w pb lb) (ic : IntsIn w pc lc) (hs : s.size ≤ 1048576) (hL : Lib3 w)
    (hpe : Dm.parseE s.data.toList = 0) (hva : Dm.vecE la = 0) (hvb : Dm.vecE lb = 0) (hvc : Dm.vecE lc ≠ 0) :
    Calls Tryd.prog 3 #[.slice pa na ca, .slice pb nb cb, .slice pc nc cc, .string s] w fun e w' => e = .returned (.bool true) ∧ Below w.heap.size w w' := by
  have HA : Hid (la.length = na) := ha
  have HB : Hid (lb.length = nb) := hb
  have HC : Hid (lc.length = nc) := hc
  have HNA : Hid (na ≤ 1048576) := hna
  have IA : Hid (IntsIn w pa la) := ia
  have IB : Hid (IntsIn w pb lb) := ib
  have IC : Hid (IntsIn w pc lc) := ic
  have HL : Hid (Lib3 w) := hL
  have HS : Hid (s.size ≤ 1048576) := hs
  clear hs
  have HPE : Hid (Dm.parseE s.data.toList = 0) := hpe
  have HPP : Hid (Dm.vecE (Dm.parseV s.data.toList) = 0 ∧ Dm.printT (Dm.parseV s.data.toList) = s.data.toList) := Dm.print_parse hpe
  have HPT : Hid (s = ⟨(Dm.printT (Dm.parseV s.data.toList)).toArray⟩) := text_eq HPP.out.2
  clear hpe
  have HVA : Hid (Dm.vecE la = 0) := hva
  have HVB : Hid (Dm.vecE lb = 0) := hvb
  have HXC : Hid (Dm.bothE (Dm.mergeL la lb) lc ≠ 0) := fun h => hvc (Dm.bothE_zero.1 h).2
  clear hva hvb hvc
  clear ha hb hc hna ia ib ic hL
  have C := merge_g (some ⟨w.heap.size, 0, none⟩) (some ⟨w.heap.size + 1, 0, none⟩) 8 8 8 8 _ _ (wA w) rfl rfl (one_in w) (two_in w) (by decide)
  go_enter Tryd.func3, Tryd.ntmps3
  go_wp2_with fail
  refine C.mono ?_
  rintro e w1 ⟨g0, rfl, hin, hb1⟩
  have K1 : Hid (Below w.heap.size w w1) := bel (wA_below w) hb1
  obtain ⟨f0, f1⟩ := fact_ok hin
  clear hin hb1 C
  go_wp2_with fail
  refine (parse_any s w1 HS.out (HL.out.below K1.out)).mono ?_
  rintro e w2 ⟨px, cx, rfl, hix, hb2⟩
  have K2 : Hid (Below w.heap.size w w2) := bel K1.out hb2
  clear hb2 f0 f1
  rw [HPE.out, errV_zero]
  obtain ⟨nx, hnx⟩ : ∃ nx, nx = (Dm.parseV s.data.toList).length := ⟨_, rfl⟩
  rw [← hnx]
  have HNX : Hid ((Dm.parseV s.data.toList).length = nx) := hnx.symm
  have HIX : Hid (IntsIn w2 px (Dm.parseV s.data.toList)) := hix
  clear hnx hix
  go_wp2_with fail
  refine (print_yes px nx cx _ w2 HNX.out HIX.out (HL.out.below K2.out) HPP.out.1 s HPT.out).mono ?_
  rintro e w3 ⟨rfl, hb3⟩
  have K3 : Hid (Below w.heap.size w w3) := bel K2.out hb3
  clear hb3
  obtain ⟨t, ht⟩ : ∃ t : ByteArray, t = ⟨(Dm.printT la).toArray⟩ := ⟨_, rfl⟩
  have HT : Hid (t = ⟨(Dm.printT la).toArray⟩) := ht
  have HTS : Hid (t.size ≤ 1048576 ∧ Dm.parseE t.data.toList = 0 ∧ Dm.parseV t.data.toList = la) := by
    have h1 : t.data.toList = Dm.printT la := by rw [ht]
    refine ⟨?_, ?_, ?_⟩
    · have h2 : t.size = (Dm.printT la).length := by rw [← h1]; rfl
      rw [h2]
      exact Nat.le_trans (Dm.print_len HVA.out) (by decide)
    · rw [h1]; exact (Dm.parse_print HVA.out).1
    · rw [h1]; exact (Dm.parse_print HVA.out).2
  clear ht
  go_wp2_with fail
  refine (print_yes pa na ca la _ HA.out (IA.out.below K3.out) (HL.out.below K3.out) HVA.out t HT.out).mono ?_
  rintro e w4 ⟨rfl, hb4⟩
  have K4 : Hid (Below w.heap.size w w4) := bel K3.out hb4
  clear hb4
  go_wp2_with fail
  refine (parse_any t w4 HTS.out.1 (HL.out.below K4.out)).mono ?_
  rintro e w5a ⟨py, cy, rfl, hiy, hb5⟩
  rw [HTS.out.2.1, HTS.out.2.2, errV_zero, HA.out]
  rw [HTS.out.2.2] at hiy
  have K5a : Hid (Below w.heap.size w w5a) := bel K4.out hb5
  have HIY : Hid (IntsIn w5a py la) := hiy
  clear hb5 hiy
  go_wp2_with fail
  refine (ints_any py pa na na cy ca la la w5a HA.out HA.out HNA.out HIY.out (IA.out.below K5a.out)).mono ?_
  rintro e w5 ⟨rfl, hb5⟩
  rw [show (la == la) = true from by simp]
  have K5 : Hid (Below w.heap.size w w5) := bel K5a.out hb5
  clear hb5
  have HAB : Hid (Dm.bothE la lb = 0) := Dm.bothE_zero.2 ⟨HVA.out, HVB.out⟩
  have HBA : Hid (Dm.bothE lb la = 0) := Dm.bothE_zero.2 ⟨HVB.out, HVA.out⟩
  have HVX : Hid (Dm.vecE (Dm.mergeL la lb) = 0) := Dm.mergeL_vec HVA.out HVB.out
  have HLX : Hid ((Dm.mergeL la lb).length = 8) := (Dm.vecE_zero.1 HVX.out).1
  go_wp2_with fail
  refine (merge_g pa pb na nb ca cb la lb _ HA.out HB.out (IA.out.below K5.out) (IB.out.below K5.out) HAB.out).mono ?_
  rintro e w6 ⟨g6, rfl, i6, hb6⟩
  have K6 : Hid (Below w.heap.size w w6) := bel K5.out hb6
  have I6 : Hid (IntsIn w6 (some ⟨g6, 0, none⟩) (Dm.mergeL la lb)) := i6
  clear i6 hb6
  go_wp2_with fail
  refine (merge_g pb pa nb na cb ca lb la _ HB.out HA.out (IB.out.below K6.out) (IA.out.below K6.out) HBA.out).mono ?_
  rintro e w7 ⟨g7, rfl, i7, hb7⟩
  have K7 : Hid (Below w.heap.size w w7) := bel K6.out hb7
  have I67 : Hid (IntsIn w7 (some ⟨g6, 0, none⟩) (Dm.mergeL la lb)) := I6.out.below hb7
  have I7 : Hid (IntsIn w7 (some ⟨g7, 0, none⟩) (Dm.mergeL la lb)) := by rw [Dm.mergeL_comm la lb]; exact i7
  clear i7 hb7
  go_wp2_with fail
  refine (merge_no (some ⟨g6, 0, none⟩) pc 8 nc 8 cc (Dm.mergeL la lb) lc _ HLX.out HC.out I67.out (IC.out.below K7.out) HXC.out).mono ?_
  rintro e w' ⟨rfl, hw⟩
  have hw2 := hw.symm; subst hw2; clear hw
  obtain ⟨kk, hkk⟩ : ∃ kk, kk = Dm.bothE (Dm.mergeL la lb) lc := ⟨_, rfl⟩
  rw [← hkk]
  clear hkk
  go_wp2_with fail
  refine (merge_o pb pc nb nc cb cc lb lc _ HB.out HC.out (IB.out.below K7.out) (IC.out.below K7.out)).mono ?_
  rintro e w9 ⟨p9, n9, c9, e9, l9, rfl, h9, i9, hb9⟩
  have K9 : Hid (Below w.heap.size w w9) := bel K7.out hb9
  have H9 : Hid (l9.length = n9) := h9
  have I9 : Hid (IntsIn w9 p9 l9) := i9
  clear h9 i9 hb9
  go_wp2_with fail
  refine (merge_o pa p9 na n9 ca c9 la l9 _ HA.out H9.out (IA.out.below K9.out) I9.out).mono ?_
  rintro e w10 ⟨p10, n10, c10, e10, l10, rfl, h10, i10, hb10⟩
  have K10 : Hid (Below w.heap.size w w10) := bel K9.out hb10
  clear h10 i10 hb10
  go_wp2_with fail
  go_ret
  exact ⟨rfl, K10.out⟩

set_option maxHeartbeats 4000000 in
set_option maxRecDepth 100000 in
theorem walk_okC (pa pb pc : Option Addr) (na nb nc ca cb cc : Nat) (la lb lc : List Int) (s : ByteArray) (w : World) (ha : la.length = na) (hb : lb.length = nb) (hc : lc.length = nc) (hna : na ≤ 1048576) (ia : IntsIn w pa la) (ib : IntsIn w pb lb) (ic : IntsIn w pc lc) (hs : s.size ≤ 1048576) (hL : Lib3 w)
    (hpe : Dm.parseE s.data.toList = 0) (hva : Dm.vecE la = 0) (hvb : Dm.vecE lb = 0) (hvc : Dm.vecE lc = 0) :
    Calls Tryd.prog 3 #[.slice pa na ca, .slice pb nb cb, .slice pc nc cc, .string s] w fun e w' => e = .returned (.bool true) ∧ Below w.heap.size w w' := by
  have HA : Hid (la.length = na) := ha
  have HB : Hid (lb.length = nb) := hb
  have HC : Hid (lc.length = nc) := hc
  have HNA : Hid (na ≤ 1048576) := hna
  have IA : Hid (IntsIn w pa la) := ia
  have IB : Hid (IntsIn w pb lb) := ib
  have IC : Hid (IntsIn w pc lc) := ic
  have HL : Hid (Lib3 w) := hL
  have HS : Hid (s.size ≤ 1048576) := hs
  clear hs
  have HPE : Hid (Dm.parseE s.data.toList = 0) := hpe
  have HPP : Hid (Dm.vecE (Dm.parseV s.data.toList) = 0 ∧ Dm.printT (Dm.parseV s.data.toList) = s.data.toList) := Dm.print_parse hpe
  have HPT : Hid (s = ⟨(Dm.printT (Dm.parseV s.data.toList)).toArray⟩) := text_eq HPP.out.2
  clear hpe
  have HVA : Hid (Dm.vecE la = 0) := hva
  have HVB : Hid (Dm.vecE lb = 0) := hvb
  have HVC : Hid (Dm.vecE lc = 0) := hvc
  clear hva hvb hvc
  clear ha hb hc hna ia ib ic hL
  have C := merge_g (some ⟨w.heap.size, 0, none⟩) (some ⟨w.heap.size + 1, 0, none⟩) 8 8 8 8 _ _ (wA w) rfl rfl (one_in w) (two_in w) (by decide)
  go_enter Tryd.func3, Tryd.ntmps3
  go_wp2_with fail
  refine C.mono ?_
  rintro e w1 ⟨g0, rfl, hin, hb1⟩
  have K1 : Hid (Below w.heap.size w w1) := bel (wA_below w) hb1
  obtain ⟨f0, f1⟩ := fact_ok hin
  clear hin hb1 C
  go_wp2_with fail
  refine (parse_any s w1 HS.out (HL.out.below K1.out)).mono ?_
  rintro e w2 ⟨px, cx, rfl, hix, hb2⟩
  have K2 : Hid (Below w.heap.size w w2) := bel K1.out hb2
  clear hb2 f0 f1
  rw [HPE.out, errV_zero]
  obtain ⟨nx, hnx⟩ : ∃ nx, nx = (Dm.parseV s.data.toList).length := ⟨_, rfl⟩
  rw [← hnx]
  have HNX : Hid ((Dm.parseV s.data.toList).length = nx) := hnx.symm
  have HIX : Hid (IntsIn w2 px (Dm.parseV s.data.toList)) := hix
  clear hnx hix
  go_wp2_with fail
  refine (print_yes px nx cx _ w2 HNX.out HIX.out (HL.out.below K2.out) HPP.out.1 s HPT.out).mono ?_
  rintro e w3 ⟨rfl, hb3⟩
  have K3 : Hid (Below w.heap.size w w3) := bel K2.out hb3
  clear hb3
  obtain ⟨t, ht⟩ : ∃ t : ByteArray, t = ⟨(Dm.printT la).toArray⟩ := ⟨_, rfl⟩
  have HT : Hid (t = ⟨(Dm.printT la).toArray⟩) := ht
  have HTS : Hid (t.size ≤ 1048576 ∧ Dm.parseE t.data.toList = 0 ∧ Dm.parseV t.data.toList = la) := by
    have h1 : t.data.toList = Dm.printT la := by rw [ht]
    refine ⟨?_, ?_, ?_⟩
    · have h2 : t.size = (Dm.printT la).length := by rw [← h1]; rfl
      rw [h2]
      exact Nat.le_trans (Dm.print_len HVA.out) (by decide)
    · rw [h1]; exact (Dm.parse_print HVA.out).1
    · rw [h1]; exact (Dm.parse_print HVA.out).2
  clear ht
  go_wp2_with fail
  refine (print_yes pa na ca la _ HA.out (IA.out.below K3.out) (HL.out.below K3.out) HVA.out t HT.out).mono ?_
  rintro e w4 ⟨rfl, hb4⟩
  have K4 : Hid (Below w.heap.size w w4) := bel K3.out hb4
  clear hb4
  go_wp2_with fail
  refine (parse_any t w4 HTS.out.1 (HL.out.below K4.out)).mono ?_
  rintro e w5a ⟨py, cy, rfl, hiy, hb5⟩
  rw [HTS.out.2.1, HTS.out.2.2, errV_zero, HA.out]
  rw [HTS.out.2.2] at hiy
  have K5a : Hid (Below w.heap.size w w5a) := bel K4.out hb5
  have HIY : Hid (IntsIn w5a py la) := hiy
  clear hb5 hiy
  go_wp2_with fail
  refine (ints_any py pa na na cy ca la la w5a HA.out HA.out HNA.out HIY.out (IA.out.below K5a.out)).mono ?_
  rintro e w5 ⟨rfl, hb5⟩
  rw [show (la == la) = true from by simp]
  have K5 : Hid (Below w.heap.size w w5) := bel K5a.out hb5
  clear hb5
  have HAB : Hid (Dm.bothE la lb = 0) := Dm.bothE_zero.2 ⟨HVA.out, HVB.out⟩
  have HBA : Hid (Dm.bothE lb la = 0) := Dm.bothE_zero.2 ⟨HVB.out, HVA.out⟩
  have HVX : Hid (Dm.vecE (Dm.mergeL la lb) = 0) := Dm.mergeL_vec HVA.out HVB.out
  have HLX : Hid ((Dm.mergeL la lb).length = 8) := (Dm.vecE_zero.1 HVX.out).1
  go_wp2_with fail
  refine (merge_g pa pb na nb ca cb la lb _ HA.out HB.out (IA.out.below K5.out) (IB.out.below K5.out) HAB.out).mono ?_
  rintro e w6 ⟨g6, rfl, i6, hb6⟩
  have K6 : Hid (Below w.heap.size w w6) := bel K5.out hb6
  have I6 : Hid (IntsIn w6 (some ⟨g6, 0, none⟩) (Dm.mergeL la lb)) := i6
  clear i6 hb6
  go_wp2_with fail
  refine (merge_g pb pa nb na cb ca lb la _ HB.out HA.out (IB.out.below K6.out) (IA.out.below K6.out) HBA.out).mono ?_
  rintro e w7 ⟨g7, rfl, i7, hb7⟩
  have K7 : Hid (Below w.heap.size w w7) := bel K6.out hb7
  have I67 : Hid (IntsIn w7 (some ⟨g6, 0, none⟩) (Dm.mergeL la lb)) := I6.out.below hb7
  have I7 : Hid (IntsIn w7 (some ⟨g7, 0, none⟩) (Dm.mergeL la lb)) := by rw [Dm.mergeL_comm la lb]; exact i7
  clear i7 hb7
  go_wp2_with fail
  refine (merge_g (some ⟨g6, 0, none⟩) pc 8 nc 8 cc (Dm.mergeL la lb) lc _ HLX.out HC.out I67.out (IC.out.below K7.out) (Dm.bothE_zero.2 ⟨HVX.out, HVC.out⟩)).mono ?_
  rintro e w8 ⟨g8, rfl, i8, hb8⟩
  have K8 : Hid (Below w.heap.size w w8) := bel K7.out hb8
  have I68 : Hid (IntsIn w8 (some ⟨g6, 0, none⟩) (Dm.mergeL la lb)) := I67.out.below hb8
  have I78 : Hid (IntsIn w8 (some ⟨g7, 0, none⟩) (Dm.mergeL la lb)) := I7.out.below hb8
  have I8 : Hid (IntsIn w8 (some ⟨g8, 0, none⟩) (Dm.mergeL (Dm.mergeL la lb) lc)) := i8
  clear i8 hb8
  go_wp2_with fail
  refine (merge_g pb pc nb nc cb cc lb lc _ HB.out HC.out (IB.out.below K8.out) (IC.out.below K8.out) (Dm.bothE_zero.2 ⟨HVB.out, HVC.out⟩)).mono ?_
  rintro e w9 ⟨g9, rfl, i9, hb9⟩
  have K9 : Hid (Below w.heap.size w w9) := bel K8.out hb9
  have I69 : Hid (IntsIn w9 (some ⟨g6, 0, none⟩) (Dm.mergeL la lb)) := I68.out.below hb9
  have I79 : Hid (IntsIn w9 (some ⟨g7, 0, none⟩) (Dm.mergeL la lb)) := I78.out.below hb9
  have I89 : Hid (IntsIn w9 (some ⟨g8, 0, none⟩) (Dm.mergeL (Dm.mergeL la lb) lc)) := I8.out.below hb9
  have I9 : Hid (IntsIn w9 (some ⟨g9, 0, none⟩) (Dm.mergeL lb lc)) := i9
  have HVU : Hid (Dm.vecE (Dm.mergeL lb lc) = 0) := Dm.mergeL_vec HVB.out HVC.out
  clear i9 hb9
  go_wp2_with fail
  refine (merge_g pa (some ⟨g9, 0, none⟩) na 8 ca 8 la (Dm.mergeL lb lc) _ HA.out (Dm.vecE_zero.1 HVU.out).1 (IA.out.below K9.out) I9.out (Dm.bothE_zero.2 ⟨HVA.out, HVU.out⟩)).mono ?_
  rintro e w10 ⟨g10, rfl, i10, hb10⟩
  have K10 : Hid (Below w.heap.size w w10) := bel K9.out hb10
  have I610 : Hid (IntsIn w10 (some ⟨g6, 0, none⟩) (Dm.mergeL la lb)) := I69.out.below hb10
  have I710 : Hid (IntsIn w10 (some ⟨g7, 0, none⟩) (Dm.mergeL la lb)) := I79.out.below hb10
  have I810 : Hid (IntsIn w10 (some ⟨g8, 0, none⟩) (Dm.mergeL (Dm.mergeL la lb) lc)) := I89.out.below hb10
  have I10 : Hid (IntsIn w10 (some ⟨g10, 0, none⟩) (Dm.mergeL (Dm.mergeL la lb) lc)) := by rw [Dm.mergeL_assoc]; exact i10
  have HLZ : Hid ((Dm.mergeL (Dm.mergeL la lb) lc).length = 8) := (Dm.vecE_zero.1 (Dm.mergeL_vec HVX.out HVC.out)).1
  clear i10 hb10
  go_wp2_with fail
  refine (ints_any (some ⟨g6, 0, none⟩) (some ⟨g7, 0, none⟩) 8 8 8 8 _ _ w10 HLX.out HLX.out (by decide) I610.out I710.out).mono ?_
  rintro e w11 ⟨rfl, hb11⟩
  rw [show (Dm.mergeL la lb == Dm.mergeL la lb) = true from by simp]
  have K11 : Hid (Below w.heap.size w w11) := bel K10.out hb11
  have I611 : Hid (IntsIn w11 (some ⟨g6, 0, none⟩) (Dm.mergeL la lb)) := I610.out.below hb11
  have I811 : Hid (IntsIn w11 (some ⟨g8, 0, none⟩) (Dm.mergeL (Dm.mergeL la lb) lc)) := I810.out.below hb11
  have I1011 : Hid (IntsIn w11 (some ⟨g10, 0, none⟩) (Dm.mergeL (Dm.mergeL la lb) lc)) := I10.out.below hb11
  clear hb11
  go_wp2_with fail
  refine (ints_any (some ⟨g8, 0, none⟩) (some ⟨g10, 0, none⟩) 8 8 8 8 _ _ w11 HLZ.out HLZ.out (by decide) I811.out I1011.out).mono ?_
  rintro e w12 ⟨rfl, hb12⟩
  rw [show (Dm.mergeL (Dm.mergeL la lb) lc == Dm.mergeL (Dm.mergeL la lb) lc) = true from by simp]
  have K12 : Hid (Below w.heap.size w w12) := bel K11.out hb12
  have I612 : Hid (IntsIn w12 (some ⟨g6, 0, none⟩) (Dm.mergeL la lb)) := I611.out.below hb12
  clear hb12
  have C1 := compare_any pa (some ⟨g6, 0, none⟩) na 8 ca 8 la (Dm.mergeL la lb) w12 HA.out HLX.out (IA.out.below K12.out) I612.out
  have hcm := Dm.cmp_merge HVA.out HVB.out
  rw [Dm.bothE_zero.2 ⟨HVA.out, HVX.out⟩, errV_zero, hcm.2] at C1
  obtain ⟨q1, hq1⟩ : ∃ q1, q1 = Dm.cmpK la (Dm.mergeL la lb) := ⟨_, rfl⟩
  have hq10 : q1 ≤ 0 := by rw [hq1]; exact hcm.1
  rw [← hq1] at C1
  clear hq1 hcm
  go_wp2_with fail
  refine C1.mono ?_
  rintro e w13 ⟨rfl, hb13⟩
  have K13 : Hid (Below w.heap.size w w13) := bel K12.out hb13
  clear hb13 C1
  obtain ⟨q2, hq2⟩ : ∃ q2, q2 = Dm.cmpK la lb := ⟨_, rfl⟩
  obtain ⟨d2, hd2⟩ : ∃ d2, d2 = Dm.cmpB la lb := ⟨_, rfl⟩
  have hqb : -1 ≤ q2 ∧ q2 ≤ 1 := by rw [hq2]; exact Dm.cmp_bound la lb
  obtain ⟨hqb1, hqb2⟩ := hqb
  have HSW : Hid (Dm.cmpK lb la = -q2 ∧ Dm.cmpB lb la = d2) := by rw [hq2, hd2]; exact Dm.cmp_swap HVA.out HVB.out
  have HQ2 : Hid (Dm.cmpK la lb = q2) := hq2.symm
  have HD2 : Hid (Dm.cmpB la lb = d2) := hd2.symm
  clear hq2 hd2
  have C2 := compare_any pb pa nb na cb ca lb la w13 HB.out HA.out (IB.out.below K13.out) (IA.out.below K13.out)
  rw [HBA.out, errV_zero, HSW.out.1, HSW.out.2] at C2
  go_wp2_with fail
  refine C2.mono ?_
  rintro e w14 ⟨rfl, hb14⟩
  have K14 : Hid (Below w.heap.size w w14) := bel K13.out hb14
  clear hb14 C2
  have C3 := compare_any pa pb na nb ca cb la lb w14 HA.out HB.out (IA.out.below K14.out) (IB.out.below K14.out)
  rw [HAB.out, errV_zero, HQ2.out, HD2.out] at C3
  go_wp2_with fail
  refine C3.mono ?_
  rintro e w15 ⟨rfl, hb15⟩
  have K15 : Hid (Below w.heap.size w w15) := bel K14.out hb15
  clear hb15 C3
  go_wp2_with fail
  all_goals
    go_ret
    exact ⟨by first | rfl | (refine ret_bool ?_; simp [*]), K15.out⟩

end Do
end Go.Proofs.YtllcmfbkingfdaaDoor
