/- What the reference's many answers, letter by letter. -/
import Derived.Test.YtekcjhembcdgfaaDoorQc
namespace Go.Proofs.YtekcjhembcdgfaaDoor
namespace Qd
set_option linter.unusedVariables false
open Go.RowKit Pa Pb Pc Pd Pe Qa Qb Qc

def Said (a b : ByteArray) (n d : Nat) : Prop := ∀ (s : ByteArray) (w : World), s.size + d = n →
  Calls Tryd.prog 25 #[.string s, .int .i64 n, .string a, .string b] w fun e w' => e = .returned (.int .i64 ((Pm.run a.toList b.toList s.toList d).length : Int)) ∧ Below w.heap.size w w'

theorem pow26 (k : Nat) (h : k ≤ 11) : 26 ^ k ≤ 3670344486987776 := by
  have : 26 ^ k ≤ 26 ^ 11 := Nat.pow_le_pow_right (by omega) h
  simpa using this
theorem pow26b (k : Nat) (h : k ≤ 10) : 26 ^ k ≤ 141167095653376 := by
  have : 26 ^ k ≤ 26 ^ 10 := Nat.pow_le_pow_right (by omega) h
  simpa using this

theorem pow26i (k : Nat) (h : k ≤ 10) : (26 : Int) ^ k ≤ 141167095653376 := by
  have e := pow26b k h
  have e3 : ((26 ^ k : Nat) : Int) = (26 : Int) ^ k := Int.natCast_pow 26 k
  rw [← e3]
  omega

/- the ways of the test, in the walk's own forms: all fit, or not -/
theorem all_ways {a b s L H : List UInt8} {d : Nat} (hL : L = s ++ Pm.rep d 97) (hH : H = s ++ Pm.rep d 122) :
    (Pm.allN a b s d = true ∧ ((Op.bytesLess L a = false ∧ (L == a) = false ∧ b.isEmpty = true) ∨ (Op.bytesLess L a = false ∧ (L == a) = false ∧ b.isEmpty = false ∧ Op.bytesLess H b = true ∧ s.isPrefixOf b = false))) ∨
    (Pm.allN a b s d = false ∧ ((Op.bytesLess L a = true) ∨ (Op.bytesLess L a = false ∧ (L == a) = true) ∨ (Op.bytesLess L a = false ∧ (L == a) = false ∧ b.isEmpty = false ∧ Op.bytesLess H b = false) ∨ (Op.bytesLess L a = false ∧ (L == a) = false ∧ b.isEmpty = false ∧ Op.bytesLess H b = true ∧ s.isPrefixOf b = true))) := by
  subst hL; subst hH
  unfold Pm.allN
  generalize Op.bytesLess (s ++ Pm.rep d 97) a = x1
  generalize (s ++ Pm.rep d 97 == a) = x2
  generalize b.isEmpty = x3
  generalize Op.bytesLess (s ++ Pm.rep d 122) b = x4
  generalize s.isPrefixOf b = x5
  cases x1 <;> cases x2 <;> cases x3 <;> cases x4 <;> cases x5 <;> simp

set_option maxHeartbeats 4000000 in
set_option maxRecDepth 100000 in
theorem many_succ (a b : ByteArray) (n d : Nat) (hb : b.size ≤ maxLen) (hn11 : n ≤ 11) (ih : Said a b n d) (s : ByteArray) (w : World) (hn : s.size + (d + 1) = n) (h : Pm.mayN a.toList b.toList s.toList (d + 1) = true) :
    Calls Tryd.prog 25 #[.string s, .int .i64 n, .string a, .string b] w fun e w' => e = .returned (.int .i64 ((Pm.run a.toList b.toList s.toList (d + 1)).length : Int)) ∧ Below w.heap.size w w' := by
  have HN : Hid (((n : Nat) : Int) = s.size + ((d + 1 : Nat) : Nat)) := by unfold Hid; omega
  have H : Hid (Pm.mayN a.toList b.toList s.toList (d + 1) = true) := h
  have hsm : s.size ≤ maxLen := by unfold maxLen; omega
  have hne : ((s.size : Int) == (n : Int)) = false := by rw [beq_eq_false_iff_ne]; omega
  have HI : Hid (Said a b n d) := ih
  have HNn : Hid (s.size + (d + 1) = n) := hn
  have hs11 : s.size ≤ 10 := by omega
  have hsn : s.size + 1 ≤ n := by omega
  clear h ih hn
  go_enter Tryd.func25, Tryd.ntmps25
  go_wp2_with (first | (go_at_call 38; refine (may_any s a b (d + 1) _ _ HN.out (by have := HNn.out; omega)).mono ?_; rintro e w' ⟨rfl, hw⟩; have hw2 := hw.symm; subst hw2; clear hw; rw [H.out]))
  go_loop [10, 11] (fun lo hi => ∃ (j : Nat) (L H : ByteArray), j ≤ d + 1 ∧ lo = .string L ∧ hi = .string H ∧ L.size = s.size + j ∧ H.size = s.size + j ∧ Hid (L.toList = s.toList ++ Pm.rep j 97) ∧ Hid (H.toList = s.toList ++ Pm.rep j 122))
    (fun lo _ => 20 - (match lo with | .string L => L.size | _ => 0))
  case atStart => exact ⟨0, s, s, by omega, rfl, rfl, rfl, rfl, by unfold Hid Pm.rep; simp, by unfold Hid Pm.rep; simp⟩
  case round =>
    obtain ⟨j, L, H, hj, rfl, rfl, hL, hH, HL, HH⟩ := hrel
    have hd11 : s.size + (d + 1) ≤ 11 := by have := HNn.out; omega
    have hLn : L.size ≤ 20 := by omega
    have hHn : H.size ≤ 20 := by omega
    by_cases hlt : j < d + 1
    · have hc : (L.size : Int) < n := by have := HN.out; omega
      have HLs : Hid (L.size = s.size + j) := hL
      have HHs : Hid (H.size = s.size + j) := hH
      have HL1 : Hid ((L ++ (⟨#[97]⟩ : ByteArray)).size = L.size + 1) := by unfold Hid; rw [ByteArray.size_append]; rfl
      have HH1 : Hid ((H ++ (⟨#[122]⟩ : ByteArray)).size = H.size + 1) := by unfold Hid; rw [ByteArray.size_append]; rfl
      clear hL hH
      go_wp2
      go_round
      case rel => exact ⟨j + 1, _, _, by omega, rfl, rfl, by rw [HL1.out, HLs.out]; omega, by rw [HH1.out, HHs.out]; omega, by unfold Hid; rw [snoc_toList, HL.out, rep_succ, List.append_assoc], by unfold Hid; rw [snoc_toList, HH.out, rep_succ, List.append_assoc]⟩
      case measure =>
        have h2 := HLs.out
        show 20 - (L ++ (⟨#[97]⟩ : ByteArray)).size < 20 - L.size
        rw [HL1.out]
        omega
    · have hjd : j = d + 1 := by omega
      subst hjd
      have hc : ¬ (L.size : Int) < n := by have := HN.out; omega
      clear hL hH
      rcases all_ways (a := a.toList) (b := b.toList) HL.out HH.out with ⟨hA, hw⟩ | ⟨hA, hw⟩
      · have HA : Hid ((Pm.run a.toList b.toList s.toList (d + 1)).length = 25 * 26 ^ d) := Pm.run_full hA
        clear hA
        have hd10 : d ≤ 10 := by omega
        rcases hw with ⟨h1, h2, h3⟩ | ⟨h1, h2, h3, h4, h5⟩
        all_goals
          go_wp2_with fail
          refine (begins_any s b _ hsm hb).mono ?_
          rintro e w' ⟨rfl, hw⟩
          have hw2 := hw.symm; subst hw2; clear hw
          first | rw [h5] | skip
          go_wp2_with fail
          go_loop [13, 14] (fun v i => ∃ (q : Nat) (K : Int), q ≤ d ∧ i = .int .i64 ((s.size : Int) + 1 + q) ∧ v = .int .i64 K ∧ 0 ≤ K ∧ K ≤ 3529177391334400 ∧ Hid (K = 25 * 26 ^ q)) (fun _ i => n - (intOf i).toNat)
          case atStart => exact ⟨0, 25, by omega, by simp, rfl, by omega, by omega, by unfold Hid; rfl⟩
          case round =>
            obtain ⟨q, K, hq, rfl, rfl, hK0, hK1, HK⟩ := hrel
            by_cases hql : q < d
            · have hc2 : (s.size : Int) + 1 + q < n := by have := HNn.out; omega
              have HK2 : Hid (K * 26 = 25 * 26 ^ (q + 1)) := by unfold Hid; rw [HK.out, Int.pow_succ, Int.mul_assoc]
              have hK3 : K * 26 ≤ 3529177391334400 := by
                rw [HK2.out]
                have e := pow26i (q + 1) (by omega)
                omega
              go_wp2_with fail
              go_round
              case rel => exact ⟨q + 1, K * 26, by omega, by go_num, rfl, by omega, hK3, HK2⟩
              case measure => simp [intOf]; omega
            · have hqd : q = d := by omega
              have hc2 : ¬ (s.size : Int) + 1 + q < n := by have := HNn.out; omega
              have HF : Hid (((Pm.run a.toList b.toList s.toList (d + 1)).length : Int) = K) := by
                unfold Hid; rw [HA.out, HK.out, hqd]; simp
              clear hqd
              go_wp2_with fail
              go_ret
              exact ⟨ret_int HF.out.symm, Below.refl _ _⟩
      · clear hA
        have HR1 : Hid ((Pm.run a.toList b.toList s.toList (d + 1)).length ≤ 3670344486987776) := Nat.le_trans (Pm.run_le _ _ _ _) (pow26 _ (by omega))
        rcases hw with h1 | ⟨h1, h2⟩ | ⟨h1, h2, h3, h4⟩ | ⟨h1, h2, h3, h4, h5⟩
        all_goals
          go_wp2_with fail
          refine (begins_any s b _ hsm hb).mono ?_
          rintro e w' ⟨rfl, hw⟩
          have hw2 := hw.symm; subst hw2; clear hw
          go_wp2_with fail
          go_loopw [15, 16] (fun v i wr => ∃ (c S : Int) (j : Nat), Hid (c = 97 + j) ∧ 97 ≤ c ∧ c ≤ 123 ∧ i = .int .i64 c ∧ v = .int .i64 S ∧ Hid (S = Pm.upto a.toList b.toList s.toList d j) ∧ Below w.heap.size w wr) (fun _ i _ => 123 - (intOf i).toNat)
          case atStart => exact ⟨97, 0, 0, rfl, by omega, by omega, rfl, rfl, by unfold Hid; rw [Pm.upto_zero]; rfl, Below.refl _ _⟩
          case round =>
            obtain ⟨c, S, j, Hc, hc0, hc1, rfl, rfl, HS, hbel⟩ := hrel
            by_cases hct : c ≤ 122
            · have hj26 : j < 26 := by have := Hc.out; omega
              have hcv := fun w => run_bytes_of_string (P := Tryd.prog) w 9 56 5 s Tryd.underlying9 Tryd.underlying56 Tryd.underlying5
              have HCC : Hid (c = ((UInt8.ofNat (97 + j)).toNat : Int)) := by
                unfold Hid
                have : (UInt8.ofNat (97 + j)).toNat = 97 + j := by simp; omega
                rw [this, Hc.out]; omega
              obtain ⟨T, hT⟩ : ∃ T : ByteArray, T = ⟨(s.toList ++ [UInt8.ofNat (97 + j)]).toArray⟩ := ⟨_, rfl⟩
              have HT : Hid (T = ⟨(s.toList ++ [UInt8.ofNat (97 + j)]).toArray⟩) := hT
              have HTl : Hid (T.toList = s.toList ++ [UInt8.ofNat (97 + j)]) := by unfold Hid; rw [hT, ByteArray.toList_mk]
              have HTs : Hid (T.size + d = n) := by
                unfold Hid; rw [← len_eq, HTl.out]; simp [len_eq]; have := HNn.out; omega
              have hS1 : Pm.upto a.toList b.toList s.toList d (j + 1) ≤ (Pm.run a.toList b.toList s.toList (d + 1)).length := Pm.upto_mono _ _ _ _ _ (by omega)
              have hS2 := Pm.upto_succ a.toList b.toList s.toList d j hj26
              rw [← HTl.out] at hS2
              obtain ⟨k, hk⟩ : ∃ k : Nat, k = (Pm.run a.toList b.toList T.toList d).length := ⟨_, rfl⟩
              rw [← hk] at hS2
              have HK : Hid (k = (Pm.run a.toList b.toList T.toList d).length) := hk
              have HS2 : Hid (Pm.upto a.toList b.toList s.toList d (j + 1) = Pm.upto a.toList b.toList s.toList d j + k) := hS2
              have hS0 : 0 ≤ S := by rw [HS.out]; omega
              have hSk : S + k ≤ 3670344486987776 := by rw [HS.out]; have := HR1.out; omega
              have hBr : w.heap.size ≤ wr.heap.size := hbel.size
              clear hT hk hS1 hS2
              go_wp2_with (at_builtin; refine wpList_push_laid wr rfl (.tmp 88) (.tmp 91) rfl w.heap.size s _ (UInt8.ofNat (97 + j)) _ rfl rfl (by omega) hBr HCC.out T HT.out ?_; intro g cap w1 hb1 hrd; have hcv2 := hrd w1 (Below.refl _ _); clear hcv hrd)
              refine (HI.out T _ HTs.out).mono ?_
              rintro e w2 ⟨rfl, hb2⟩
              rw [← HK.out]
              have hb3 : Below w.heap.size w w2 := (hbel.trans hb1).trans (hb2.mono (Nat.le_trans hBr hb1.size))
              clear hcv2 hb1 hb2
              go_wp2_with fail
              go_roundw
              case rel => exact ⟨c + 1, S + k, j + 1, by have := Hc.out; unfold Hid; omega, by omega, by omega, rfl, rfl, by unfold Hid; rw [HS2.out, HS.out]; omega, hb3⟩
              case measure => simp [intOf]; omega
            · have hj26 : j = 26 := by have := Hc.out; omega
              have HF : Hid (((Pm.run a.toList b.toList s.toList (d + 1)).length : Int) = S) := by
                unfold Hid; rw [HS.out, hj26, Pm.upto_all]
              clear hj26
              go_wp2_with fail
              go_ret
              exact ⟨ret_int HF.out.symm, hbel⟩

theorem many_any (a b : ByteArray) (n : Nat) (hb : b.size ≤ maxLen) (hn1 : 1 ≤ n) (hn11 : n ≤ 11) : ∀ d, Said a b n d
  | 0 => by
    intro s w hn
    cases h : Pm.mayN a.toList b.toList s.toList 0
    · refine (many_no a b s n 0 w hn hn11 h).mono ?_
      rintro e w' ⟨rfl, rfl⟩
      exact ⟨rfl, Below.refl _ _⟩
    · refine (many_zero a b s n w hb (by omega) hn1 hn11 h).mono ?_
      rintro e w' ⟨rfl, rfl⟩
      exact ⟨rfl, Below.refl _ _⟩
  | d + 1 => by
    intro s w hn
    cases h : Pm.mayN a.toList b.toList s.toList (d + 1)
    · refine (many_no a b s n (d + 1) w hn hn11 h).mono ?_
      rintro e w' ⟨rfl, rfl⟩
      exact ⟨rfl, Below.refl _ _⟩
    · exact many_succ a b n d hb hn11 (many_any a b n hb hn1 hn11 d) s w hn h

end Qd
end Go.Proofs.YtekcjhembcdgfaaDoor
