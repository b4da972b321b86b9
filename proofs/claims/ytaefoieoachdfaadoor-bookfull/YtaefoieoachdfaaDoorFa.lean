/- The walk of BookFull. -/
import Derived.Test.YtaefoieoachdfaaDoorLk
import Derived.Test.YtaefoieoachdfaaDoorBo
import Derived.Test.YtaefoieoachdfaaDoorKl
namespace Go.Proofs.YtaefoieoachdfaaDoor
namespace Fa
set_option linter.unusedVariables false
open Go.ChangeShapes Go.WideShapes Go.ChangeAt Go.RowKit Bm Ka Kb La Lb Lc Ld Le Lf Lg Lh Li Lj Lk Kt Kl

theorem plc_size (j : Nat) : (plc j).size = 3 := rfl
theorem full_size (m : Nat) : ∀ x ∈ full m, x.1.size ≤ maxLen := by
  intro x hx
  obtain ⟨j, _, rfl⟩ := List.mem_map.1 hx
  show (plc j).size ≤ maxLen
  rw [plc_size]; unfold maxLen; omega
theorem plc_conv (w : World) (k : Nat) (x y : Int) (hk : k < 400) (hx : x = 98 + (k : Int) / 25) (hy : y = 98 + (k : Int) % 25) :
    (convert 49 9 (.slice (some ⟨w.heap.size, 0, none⟩) 3 3)).run Tryd.prog (w.alloc (.cells #[.int .u8 x, .int .u8 y, .int .u8 98] 5)) = .ok (.string (plc k)) (w.alloc (.cells #[.int .u8 x, .int .u8 y, .int .u8 98] 5)) := by
  have h2 : (w.alloc (.cells #[.int .u8 x, .int .u8 y, .int .u8 98] 5)).heap[w.heap.size]? = some (.cells #[.int .u8 x, .int .u8 y, .int .u8 98] 5) := heap_alloc_new w _
  have h3 : ((UInt8.ofNat (98 + k / 25)).toNat : Int) = x := by rw [nat_of (by omega), hx]; omega
  have h4 : ((UInt8.ofNat (98 + k % 25)).toNat : Int) = y := by rw [nat_of (by omega), hy]; omega
  refine run_convert_bytes_back (P := Tryd.prog) _ 49 9 5 ⟨w.heap.size, 0, none⟩ 3 [UInt8.ofNat (98 + k / 25), UInt8.ofNat (98 + k % 25), 98] Tryd.underlying49 Tryd.underlying5 Tryd.underlying9 ?_
  intro j hj
  rw [Addr.add_lit, Nat.zero_add]
  simp only [World.cell?, h2]
  match j, hj with
  | 0, _ => show some (Value.int .u8 x) = some (Value.int .u8 ((UInt8.ofNat (98 + k / 25)).toNat : Int)); rw [h3]
  | 1, _ => show some (Value.int .u8 y) = some (Value.int .u8 ((UInt8.ofNat (98 + k % 25)).toNat : Int)); rw [h4]
  | 2, _ => rfl

theorem walk_out (n s : Int) (w : World) (h : n < 290 ∨ 310 < n) :
    Calls Tryd.prog 4 #[.int .i64 n, .int .i64 s] w fun e w' => e = .returned (.bool true) ∧ Below w.heap.size w w' := by
  rcases h with h | h
  · go_enter Tryd.func4, Tryd.ntmps4
    go_wp2_with fail
    go_ret
    exact ⟨rfl, Below.refl _ _⟩
  · have h2 : ¬ n < 290 := by omega
    go_enter Tryd.func4, Tryd.ntmps4
    go_wp2_with fail
    go_ret
    exact ⟨rfl, Below.refl _ _⟩

set_option maxRecDepth 100000 in
set_option maxHeartbeats 4000000 in
theorem walk_in (n : Nat) (s : Int) (w : World) (hg : ET w) (h1 : 290 ≤ n) (h2 : n ≤ 310) :
    Calls Tryd.prog 4 #[.int .i64 n, .int .i64 s] w fun e w' => e = .returned (.bool true) ∧ Below w.heap.size w w' := by
  have h1z : ¬ (n : Int) < 290 := by omega
  have h2z : ¬ 310 < (n : Int) := by omega
  have HG : Hid (ET w) := hg
  clear hg
  go_enter Tryd.func4, Tryd.ntmps4
  go_wp2_with fail
  go_loopw [5, 6, 7, 8, 9, 10] (fun v i _ _ _ _ wr => ∃ k : Nat, k ≤ n ∧ i = .int .i64 k ∧ Hid (BookAt wr v (full (min k 300))) ∧ Hid (Below w.heap.size w wr)) (fun _ i _ _ _ _ _ => n - (intOf i).toNat)
  case atStart => exact ⟨0, by omega, rfl, BookAt.nil w, Below.refl _ _⟩
  case round =>
    obtain ⟨k, hk, rfl, HK, HB⟩ := hrel
    by_cases hlt : k < n
    · have hltz : (k : Int) < n := by omega
      have hcv := plc_conv wr k (98 + (k : Int) / 25) (98 + (k : Int) % 25) (by omega) rfl rfl
      have HBA : Hid (Below w.heap.size w (wr.alloc (.cells #[.int .u8 (98 + (k : Int) / 25), .int .u8 (98 + (k : Int) % 25), .int .u8 98] 5))) := HB.out.alloc HB.out.size _
      have C := write_any u5 (full (min k 300)) (plc k) 120 (wr.alloc (.cells #[.int .u8 (98 + (k : Int) / 25), .int .u8 (98 + (k : Int) % 25), .int .u8 98] 5)) (HK.out.below ((Below.refl _ wr).alloc (Nat.le_refl _) _)) (full_size _) (by rw [plc_size]; unfold maxLen; omega)
      by_cases h300 : k < 300
      · have e0 : min k 300 = k := Nat.min_eq_left (by omega)
        rw [e0, (full_write h300).1, (full_write h300).2, errV_zero] at C
        have h300z : (k : Int) < 300 := by omega
        have h300y : ¬ (300 : Int) ≤ k := by omega
        have HE1 : Hid (min (k + 1) 300 = k + 1) := Nat.min_eq_left (by omega)
        obtain ⟨pp, hpp⟩ : ∃ pp, pp = plc k := ⟨_, rfl⟩
        rw [← hpp] at hcv C
        clear e0 hpp
        go_wp2_with fail
        refine C.mono ?_
        rintro e w2 ⟨v2, rfl, hk2, hb2⟩
        have HB2 : Hid (Below w.heap.size w w2) := bel HBA.out hb2
        have HK2 : Hid (BookAt w2 v2 (full (k + 1))) := hk2
        have C2 := same_nil 4 w2
        clear C hk2 hb2 hcv
        go_wp2_with fail
        refine C2.mono ?_
        rintro e w3 ⟨rfl, hw⟩
        have hw2 := hw.symm; subst hw2; clear hw C2
        go_wp2_with fail
        go_roundw
        case rel => exact ⟨k + 1, by omega, by go_num, by rw [HE1.out]; exact HK2, HB2⟩
        case measure => simp [intOf]; omega
      · have e0 : min k 300 = 300 := Nat.min_eq_right (by omega)
        rw [e0, (full_no (by omega) (by omega)).1, (full_no (by omega) (by omega)).2] at C
        have e4 : errV 4 = .iface 71 (.int .i64 4) := rfl
        rw [e4] at C
        have h300z : ¬ (k : Int) < 300 := by omega
        have h300y : (300 : Int) ≤ k := by omega
        have HE1 : Hid (min (k + 1) 300 = min k 300) := by unfold Hid; omega
        obtain ⟨pp, hpp⟩ : ∃ pp, pp = plc k := ⟨_, rfl⟩
        rw [← hpp] at hcv C
        clear e0 hpp e4
        go_wp2_with fail
        refine C.mono ?_
        rintro e w2 ⟨v2, rfl, hk2, hb2⟩
        have HB2 : Hid (Below w.heap.size w w2) := bel HBA.out hb2
        have HK2 : Hid (BookAt w2 u5 (full (min k 300))) := HK.out.below (bel ((Below.refl _ wr).alloc (Nat.le_refl _) _) hb2)
        have C2 := same_err 4 4 w2 (Kl.ET.below HG.out HB2.out)
        clear C hk2 hb2 hcv
        go_wp2_with fail
        refine C2.mono ?_
        rintro e w3 ⟨rfl, hb3⟩
        have HB3 : Hid (Below w.heap.size w w3) := bel HB2.out hb3
        have HK3 : Hid (BookAt w3 u5 (full (min k 300))) := HK2.out.below hb3
        clear C2 hb3
        go_wp2_with fail
        go_roundw
        case rel => exact ⟨k + 1, by omega, by go_num, by rw [HE1.out]; exact HK3, HB3⟩
        case measure => simp [intOf]; omega
    · obtain rfl : k = n := by omega
      obtain ⟨m, hm⟩ : ∃ m, m = min k 300 := ⟨_, rfl⟩
      rw [← hm] at HK
      have hm1 : 290 ≤ m := by omega
      have hm2 : m ≤ 300 := by omega
      obtain ⟨q, c, hv, hlf, hc1, hc2, _⟩ := HK.out
      rw [full_length] at hv hc1
      subst hv
      obtain ⟨b, o, rfl, hc⟩ := hlf.some (by intro e; have := full_length m; rw [e] at this; simp at this; omega)
      have HC : Hid (∀ j, j < m → wr.cell? ⟨b, o + j * 3, none⟩ = some (.string (plc j))) := by
        intro j hj
        have := (hc j (by rw [full_length]; exact hj)).1
        rw [full_get hj] at this
        exact this
      clear hm hlf hc hc2
      by_cases hs0 : s < 0
      · go_wp2_with fail
        go_ret
        exact ⟨rfl, HB.out⟩
      · by_cases hsm : (m : Int) ≤ s
        · go_wp2_with fail
          go_ret
          exact ⟨rfl, HB.out⟩
        · obtain ⟨j, rfl⟩ : ∃ j : Nat, s = j := ⟨s.toNat, by omega⟩
          have hjm : j < m := by omega
          have hjz : (j : Int) < m := by omega
          have a1 := HC.out j hjm
          obtain ⟨f1, f2, f3, f4⟩ := full_strike hm2 hjm
          have C := strike_any _ (full m) (plc j) wr HK.out (full_size _) (by rw [plc_size]; unfold maxLen; omega)
          rw [f1, errV_zero] at C
          have HSS : Hid (∀ y ∈ strikeL (full m) (plc j), y.1.size ≤ maxLen) := by
            have hbk := strike_book f1
            rw [hbk.2]
            intro y hy
            rcases (put_mem (l := full m) (p := plc j) (x := stX (full m) (plc j)) (full_rise (by omega)) rfl y).1 hy with rfl | ⟨h, _⟩
            · show (plc j).size ≤ maxLen; rw [plc_size]; unfold maxLen; omega
            · exact full_size m y h
          obtain ⟨S, hS⟩ : ∃ S, S = strikeL (full m) (plc j) := ⟨_, rfl⟩
          rw [← hS] at C f2 f3 f4 HSS
          have HTX : Hid (textR S = ⟨(text S).toArray⟩) := by unfold Hid textR; rw [if_pos f3]
          have HF : Hid (S.length = m ∧ bookE S = 0 ∧ (text S).length = m - 1) := ⟨f2, f3, f4⟩
          obtain ⟨pp, hpp⟩ : ∃ pp, pp = plc j := ⟨_, rfl⟩
          rw [← hpp] at a1 C
          clear f1 f2 f3 f4 hS hpp hs0 hsm
          go_wp2_with fail
          refine C.mono ?_
          rintro e w2 ⟨v2, rfl, hk2, hb2⟩
          have HB2 : Hid (Below w.heap.size w w2) := bel HB.out hb2
          obtain ⟨q2, c2, hv2, hlf2, hc3, hc4, _⟩ := hk2
          rw [HF.out.1] at hv2
          subst hv2
          have C2 := text_any q2 m c2 S w2 HF.out.1 hlf2 HSS.out (by unfold maxLen; omega)
          rw [HTX.out, HF.out.2.1, errV_zero] at C2
          obtain ⟨T, hT⟩ : ∃ T : ByteArray, T = ⟨(text S).toArray⟩ := ⟨_, rfl⟩
          have hTs : T.size = m - 1 := by rw [hT]; exact HF.out.2.2
          rw [← hT] at C2
          have HTS : Hid (T.size = m - 1) := hTs
          have hTi : ((T.size : Int) == (m : Int) - 1) = true := by
            rw [beq_iff_eq, hTs]; omega
          have hTl : T.size ≤ 300 := by omega
          clear C hb2 hlf2 hc3 hc4 hT hTs
          go_wp2_with fail
          refine C2.mono ?_
          rintro e w3 ⟨rfl, hb3⟩
          have HB3 : Hid (Below w.heap.size w w3) := bel HB2.out hb3
          clear C2 hb3
          go_wp2_with fail
          go_ret
          exact ⟨by first | rfl | (refine ret_bool ?_; simp [HTS.out]; omega), HB3.out⟩

end Fa
end Go.Proofs.YtaefoieoachdfaaDoor
