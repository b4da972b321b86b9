/- The walk of the law DotTells, where the first list is no vector. -/
import Derived.Test.YtllcmfbkingfdaaGreatDoorTa
namespace Go.Proofs.YtllcmfbkingfdaaGreatDoor
namespace Ta
set_option linter.unusedVariables false
open Go.ChangeShapes Go.WideShapes Go.ChangeAt Go.RowKit Za Db Dc Dd Dg Dh Di Dl Ra Rb Rc Pt Pl

set_option maxHeartbeats 8000000 in
set_option maxRecDepth 100000 in
theorem walk_cV (pa pb : Option Addr) (na nb ca cb : Nat) (la lb : List Int) (who m : Int) (s : ByteArray) (w : World) (ha : la.length = na) (hb : lb.length = nb) (hna : na ≤ 1048576) (ia : IntsIn w pa la) (ib : IntsIn w pb lb) (hs : s.size ≤ 1048576) (hL : Lib3 w) (hg : ET w)
    (hva : Dm.vecE la ≠ 0) :
    Calls Tryz.prog 3 #[.slice pa na ca, .slice pb nb cb, .agg #[.int .i64 who, .int .i64 m], .string s] w fun e w' => e = .returned (.bool true) ∧ Below w.heap.size w w' := by
  have hbx : Below w.heap.size w (w.alloc (.cells #[.int .i64 who, .int .i64 m] 24)) := (Below.refl _ w).alloc (Nat.le_refl _) _
  have HBX : Hid (Below w.heap.size w (w.alloc (.cells #[.int .i64 who, .int .i64 m] 24))) := hbx
  have IB : Hid (IntsIn (w.alloc (.cells #[.int .i64 who, .int .i64 m] 24)) pb lb) := ib.below hbx
  have HB : Hid (lb.length = nb) := hb
  have HL : Hid (Lib3 (w.alloc (.cells #[.int .i64 who, .int .i64 m] 24))) := hL.below hbx
  have HG : Hid (ET (w.alloc (.cells #[.int .i64 who, .int .i64 m] 24))) := ET.below hg hbx
  have HS : Hid (s.size ≤ 1048576) := hs
  obtain ⟨kv, hkv⟩ : ∃ kv, kv = Dm.vecE la := ⟨_, rfl⟩
  obtain ⟨ed, hed⟩ : ∃ ed, ed = Dm.dotE who m := ⟨_, rfl⟩
  have HVA : Hid (Dm.vecE la = kv) := hkv.symm
  have HVN : Hid (Dm.vecE la ≠ 0) := hva
  have HED : Hid (Dm.dotE who m = ed) := hed.symm
  have hk0 : (kv == 0) = false := by rw [hkv]; simpa using hva
  have HWE : Hid (Dm.withE la who m = kv) := by unfold Hid Dm.withE; rw [if_neg hva, hkv]
  have HAN : Hid (Dm.addE la who m ≠ 0) := by unfold Dm.addE; rw [HWE.out, if_pos (by rw [hkv]; exact hva)]; rw [hkv]; exact hva
  have HAE : Hid (Dm.addE la who m = kv) := by unfold Hid Dm.addE; rw [HWE.out, if_pos (by rw [hkv]; exact hva)]
  have HHB : Hid (Dm.hasB la who m = false) := by unfold Hid Dm.hasB; rw [HWE.out, decide_eq_false (by rw [hkv]; exact hva)]; rfl
  have HBO : Hid (Dm.bothE la lb ≠ 0) := fun h => hva (Dm.bothE_zero.1 h).1
  have HBE : Hid (Dm.bothE la lb = kv) := by unfold Hid Dm.bothE; rw [if_neg hva, hkv]
  have HCK : Hid (Dm.cmpK la lb = 0) := by unfold Hid Dm.cmpK; rw [if_neg HBO.out]
  have HCB : Hid (Dm.cmpB la lb = false) := by unfold Hid Dm.cmpB; rw [decide_eq_false HBO.out]; rfl
  have IA : Hid (IntsIn (w.alloc (.cells #[.int .i64 who, .int .i64 m] 24)) pa la) := ia.below hbx
  have HA : Hid (la.length = na) := ha
  clear hkv hed hva ha hb ia ib hL hg hs hbx
  obtain ⟨i0, hi, hz0, hz1, hz2⟩ := info_parts infoInt
  go_enter Tryz.func3, Tryz.ntmps3

  have CD := rdot_any who m (w.alloc (.cells #[.int .i64 who, .int .i64 m] 24))
  rw [HED.out] at CD
  go_wp2_with fail
  refine (CD).mono ?_
  rintro e w2 ⟨rfl, hb2⟩
  have K2 : Hid (Below (w.alloc (.cells #[.int .i64 who, .int .i64 m] 24)).heap.size (w.alloc (.cells #[.int .i64 who, .int .i64 m] 24)) w2) := hb2
  clear hb2
  obtain ⟨hx0, hx1⟩ := box_cells w who m K2.out
  clear CD
  have CK := check_any who m w2
  rw [HED.out] at CK
  go_wp2_with fail
  refine (CK).mono ?_
  rintro e w3 ⟨rfl, hb3⟩
  have K3 : Hid (Below (w.alloc (.cells #[.int .i64 who, .int .i64 m] 24)).heap.size (w.alloc (.cells #[.int .i64 who, .int .i64 m] 24)) w3) := bel K2.out hb3
  clear hb3
  clear hx0 hx1
  obtain ⟨hx0, hx1⟩ := box_cells w who m K3.out
  clear CK
  go_wp2_with fail
  refine (same_self (ed) w3 (ET.below HG.out K3.out)).mono ?_
  rintro e w4 ⟨rfl, hb4⟩
  have K4 : Hid (Below (w.alloc (.cells #[.int .i64 who, .int .i64 m] 24)).heap.size (w.alloc (.cells #[.int .i64 who, .int .i64 m] 24)) w4) := bel K3.out hb4
  clear hb4
  clear hx0 hx1
  obtain ⟨hx0, hx1⟩ := box_cells w who m K4.out
  have CV := rvec_any pa na ca la w4 HA.out (IA.out.below K4.out)
  rw [HVA.out] at CV
  go_wp2_with fail
  refine (CV).mono ?_
  rintro e w' ⟨rfl, hw⟩
  have hw2 := hw.symm; subst hw2; clear hw
  clear CV
  have CW := vector_any pa na ca la w4 HA.out (IA.out.below K4.out)
  rw [HVA.out] at CW
  go_wp2_with fail
  refine (CW).mono ?_
  rintro e w' ⟨rfl, hw⟩
  have hw2 := hw.symm; subst hw2; clear hw
  clear CW
  go_wp2_with fail
  refine (same_self (kv) w4 (ET.below HG.out K4.out)).mono ?_
  rintro e w5 ⟨rfl, hb5⟩
  have K5 : Hid (Below (w.alloc (.cells #[.int .i64 who, .int .i64 m] 24)).heap.size (w.alloc (.cells #[.int .i64 who, .int .i64 m] 24)) w5) := bel K4.out hb5
  clear hb5
  clear hx0 hx1
  obtain ⟨hx0, hx1⟩ := box_cells w who m K5.out
  go_wp2_with fail
  go_quiet (fail)
  generalize hwq : World.drewN _ _ = w6
  have K6 : Hid (Below (w.alloc (.cells #[.int .i64 who, .int .i64 m] 24)).heap.size (w.alloc (.cells #[.int .i64 who, .int .i64 m] 24)) w6) := by unfold Hid; rw [← hwq]; exact bel_drew K5.out _
  clear hwq hx0 hx1
  obtain ⟨hx0, hx1⟩ := box_cells w who m K6.out
  have CH := has_any pa na ca la who m w6 HA.out (IA.out.below K6.out)
  rw [HWE.out, HHB.out] at CH
  go_wp2_with fail
  refine (CH).mono ?_
  rintro e w7 ⟨rfl, hb7⟩
  have K7 : Hid (Below (w.alloc (.cells #[.int .i64 who, .int .i64 m] 24)).heap.size (w.alloc (.cells #[.int .i64 who, .int .i64 m] 24)) w7) := bel K6.out hb7
  clear hb7
  clear hx0 hx1
  obtain ⟨hx0, hx1⟩ := box_cells w who m K7.out
  clear CH
  go_wp2_with fail
  refine (same_self (kv) w7 (ET.below HG.out K7.out)).mono ?_
  rintro e w8 ⟨rfl, hb8⟩
  have K8 : Hid (Below (w.alloc (.cells #[.int .i64 who, .int .i64 m] 24)).heap.size (w.alloc (.cells #[.int .i64 who, .int .i64 m] 24)) w8) := bel K7.out hb8
  clear hb8
  clear hx0 hx1
  obtain ⟨hx0, hx1⟩ := box_cells w who m K8.out
  go_wp2_with fail
  go_quiet (fail)
  generalize hwq : World.drewN _ _ = w9
  have K9 : Hid (Below (w.alloc (.cells #[.int .i64 who, .int .i64 m] 24)).heap.size (w.alloc (.cells #[.int .i64 who, .int .i64 m] 24)) w9) := by unfold Hid; rw [← hwq]; exact bel_drew K8.out _
  clear hwq hx0 hx1
  obtain ⟨hx0, hx1⟩ := box_cells w who m K9.out
  go_wp2_with fail
  refine (add_no pa na ca la who m w9 HA.out (IA.out.below K9.out) HAN.out (kv) HAE.out).mono ?_
  rintro e w10 ⟨rfl, hb10⟩
  have K10 : Hid (Below (w.alloc (.cells #[.int .i64 who, .int .i64 m] 24)).heap.size (w.alloc (.cells #[.int .i64 who, .int .i64 m] 24)) w10) := bel K9.out hb10
  clear hb10
  clear hx0 hx1
  go_wp2_with fail
  refine (same_k (kv) w10 (ET.below HG.out K10.out)).mono ?_
  rintro e w11 ⟨rfl, hb11⟩
  have K11 : Hid (Below (w.alloc (.cells #[.int .i64 who, .int .i64 m] 24)).heap.size (w.alloc (.cells #[.int .i64 who, .int .i64 m] 24)) w11) := bel K10.out hb11
  clear hb11
  go_wp2_with fail
  refine (ints_same none none 0 0 0 [] w11 rfl (by decide) (IntsIn.nil _ _) (IntsIn.nil _ _)).mono ?_
  rintro e w12 ⟨rfl, hb12⟩
  have K12 : Hid (Below (w.alloc (.cells #[.int .i64 who, .int .i64 m] 24)).heap.size (w.alloc (.cells #[.int .i64 who, .int .i64 m] 24)) w12) := bel K11.out hb12
  clear hb12
  go_wp2_with fail
  go_loop [22, 23, 24] (fun T i _ => T = .string ⟨#[]⟩ ∧ i = .int .i64 0) (fun _ _ _ => 0)
  case atStart => exact ⟨rfl, rfl⟩
  case round =>
    obtain ⟨rfl, rfl⟩ := hrel
    have CP := print_no pa na ca la w12 HA.out (IA.out.below K12.out) HVN.out
    rw [HVA.out] at CP
    by_cases hn : (0 : Int) < (na : Int)
    all_goals
      go_wp2_with fail
      refine CP.mono ?_
      rintro e w' ⟨rfl, hw⟩
      have hw2 := hw.symm; subst hw2; clear hw CP
      go_wp2_with fail
      refine (same_k kv w12 (ET.below HG.out K12.out)).mono ?_
      rintro e w20 ⟨rfl, hb20⟩
      have K20 : Hid (Below (w.alloc (.cells #[.int .i64 who, .int .i64 m] 24)).heap.size (w.alloc (.cells #[.int .i64 who, .int .i64 m] 24)) w20) := bel K12.out hb20
      clear hb20
      go_wp2_with fail
      go_loop [18, 27, 28, 29, 30] (fun wv l mo i _ => wv = .slice none 0 0 ∧ l = .bool false ∧ mo = .bool false ∧ i = .int .i64 0) (fun _ _ _ _ _ => 0)
      case atStart => exact ⟨rfl, rfl, rfl, rfl⟩
      case round =>
        obtain ⟨rfl, rfl, rfl, rfl⟩ := hrel
        go_wp2_with fail
        refine (merge_no pa pb na nb ca cb la lb w20 HA.out HB.out (IA.out.below K20.out) (IB.out.below K20.out) HBO.out).mono ?_
        rintro e w' ⟨rfl, hw⟩
        have hw2 := hw.symm; subst hw2; clear hw
        rw [HBE.out]
        go_wp2_with fail
        refine (same_k kv w20 (ET.below HG.out K20.out)).mono ?_
        rintro e w25 ⟨rfl, hb25⟩
        have K25 : Hid (Below (w.alloc (.cells #[.int .i64 who, .int .i64 m] 24)).heap.size (w.alloc (.cells #[.int .i64 who, .int .i64 m] 24)) w25) := bel K20.out hb25
        clear hb25
        go_wp2_with fail
        refine (ints_same none none 0 0 0 [] w25 rfl (by decide) (IntsIn.nil _ _) (IntsIn.nil _ _)).mono ?_
        rintro e w26 ⟨rfl, hb26⟩
        have K26 : Hid (Below (w.alloc (.cells #[.int .i64 who, .int .i64 m] 24)).heap.size (w.alloc (.cells #[.int .i64 who, .int .i64 m] 24)) w26) := bel K25.out hb26
        clear hb26
        have CC := compare_any pa pb na nb ca cb la lb w26 HA.out HB.out (IA.out.below K26.out) (IB.out.below K26.out)
        rw [HCK.out, HCB.out, HBE.out] at CC
        go_wp2_with fail
        refine (CC).mono ?_
        rintro e w27 ⟨rfl, hb27⟩
        have K27 : Hid (Below (w.alloc (.cells #[.int .i64 who, .int .i64 m] 24)).heap.size (w.alloc (.cells #[.int .i64 who, .int .i64 m] 24)) w27) := bel K26.out hb27
        clear hb27
        clear CC
        go_wp2_with fail
        refine (same_self kv w27 (ET.below HG.out K27.out)).mono ?_
        rintro e w28 ⟨rfl, hb28⟩
        have K28 : Hid (Below (w.alloc (.cells #[.int .i64 who, .int .i64 m] 24)).heap.size (w.alloc (.cells #[.int .i64 who, .int .i64 m] 24)) w28) := bel K27.out hb28
        clear hb28
        obtain ⟨nx, hnx⟩ : ∃ nx, nx = (Dm.parseV s.data.toList).length := ⟨_, rfl⟩
        obtain ⟨ex, hex⟩ : ∃ ex, ex = Dm.parseE s.data.toList := ⟨_, rfl⟩
        have hnxb : nx ≤ 1048576 := by
          rw [hnx]
          exact Nat.le_trans (parse_len _) (by decide)
        have HNX : Hid ((Dm.parseV s.data.toList).length = nx) := hnx.symm
        have CR := read_any s w28 HS.out
        rw [← hnx, ← hex] at CR
        go_wp2_with fail
        refine CR.mono ?_
        rintro e w31 ⟨p31, c31, rfl, i31, hb31⟩
        have K31 : Hid (Below (w.alloc (.cells #[.int .i64 who, .int .i64 m] 24)).heap.size (w.alloc (.cells #[.int .i64 who, .int .i64 m] 24)) w31) := bel K28.out hb31
        have I31 : Hid (IntsIn w31 p31 (Dm.parseV s.data.toList)) := i31
        clear CR i31 hb31
        have CP := parse_any s w31 HS.out (HL.out.below K31.out)
        rw [← hnx, ← hex] at CP
        clear hnx hex
        go_wp2_with fail
        refine CP.mono ?_
        rintro e w32 ⟨p32, c32, rfl, i32, hb32⟩
        have K32 : Hid (Below (w.alloc (.cells #[.int .i64 who, .int .i64 m] 24)).heap.size (w.alloc (.cells #[.int .i64 who, .int .i64 m] 24)) w32) := bel K31.out hb32
        have I32 : Hid (IntsIn w32 p32 (Dm.parseV s.data.toList)) := i32
        have I312 : Hid (IntsIn w32 p31 (Dm.parseV s.data.toList)) := I31.out.below hb32
        clear CP i32 hb32
        go_wp2_with fail
        refine (same_self ex w32 (ET.below HG.out K32.out)).mono ?_
        rintro e w33 ⟨rfl, hb33⟩
        have K33 : Hid (Below (w.alloc (.cells #[.int .i64 who, .int .i64 m] 24)).heap.size (w.alloc (.cells #[.int .i64 who, .int .i64 m] 24)) w33) := bel K32.out hb33
        have I33 : Hid (IntsIn w33 p32 (Dm.parseV s.data.toList)) := I32.out.below hb33
        have I313 : Hid (IntsIn w33 p31 (Dm.parseV s.data.toList)) := I312.out.below hb33
        clear hb33
        go_wp2_with fail
        refine (ints_same p32 p31 nx c32 c31 _ w33 HNX.out hnxb I33.out I313.out).mono ?_
        rintro e w34 ⟨rfl, hb34⟩
        have K34 : Hid (Below (w.alloc (.cells #[.int .i64 who, .int .i64 m] 24)).heap.size (w.alloc (.cells #[.int .i64 who, .int .i64 m] 24)) w34) := bel K33.out hb34
        clear hb34
        go_wp2_with fail
        all_goals
          go_ret
          exact ⟨by first | rfl | (refine ret_bool ?_; simp [*]), bel HBX.out K34.out⟩

end Ta
end Go.Proofs.YtllcmfbkingfdaaGreatDoor
