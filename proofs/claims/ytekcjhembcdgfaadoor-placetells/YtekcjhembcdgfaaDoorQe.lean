/- What the reference's nth answers: the k-th of the stems of n letters that begin so. -/
import Derived.Test.YtekcjhembcdgfaaDoorQd
namespace Go.Proofs.YtekcjhembcdgfaaDoor
namespace Qe
set_option linter.unusedVariables false
open Go.RowKit Pa Pb Pc Pd Pe Qa Qb Qc Qd

/- which text is sought: said of a beginning, letters to come, and a number -/
def At (a b : List UInt8) (t : List UInt8) (s : List UInt8) (d : Nat) (k : Int) : Prop := ∃ kk : Nat, k = kk ∧ (Pm.run a b s d)[kk]? = some t

theorem At.zero {a b t s : List UInt8} {k : Int} (h : At a b t s 0 k) : t = s := by
  obtain ⟨kk, _, h⟩ := h
  rw [Pm.run_zero] at h
  cases hst : Pm.stem s a b
  · rw [hst] at h; simp at h
  · rw [hst] at h
    cases kk with
    | zero => simpa using h.symm
    | succ n => simp at h
theorem At.bound {a b t s : List UInt8} {d : Nat} {k : Int} (h : At a b t s d k) : 0 ≤ k ∧ k < (Pm.run a b s d).length := by
  obtain ⟨kk, rfl, h⟩ := h
  have := (List.getElem?_eq_some_iff.1 h).1
  omega
theorem At.next {a b t s : List UInt8} {d j : Nat} {k : Int} (h : At a b t s (d + 1) k) (hj : j < 26) (h1 : (Pm.upto a b s d j : Int) ≤ k) (h2 : k - Pm.upto a b s d j < (Pm.run a b (s ++ [UInt8.ofNat (97 + j)]) d).length) :
    At a b t (s ++ [UInt8.ofNat (97 + j)]) d (k - Pm.upto a b s d j) := by
  obtain ⟨kk, rfl, h⟩ := h
  have h3 : kk < Pm.upto a b s d (j + 1) := by rw [Pm.upto_succ _ _ _ _ _ hj]; omega
  have h4 := Pm.run_at a b s d j kk hj (by omega) h3
  rw [h4] at h
  exact ⟨kk - Pm.upto a b s d j, by omega, h⟩

set_option maxHeartbeats 4000000 in
set_option maxRecDepth 100000 in
theorem nth_any (a b : ByteArray) (n d : Nat) (k : Int) (t : List UInt8) (s : ByteArray) (w : World) (hb : b.size ≤ maxLen) (hn1 : 1 ≤ n) (hn11 : n ≤ 11) (hn : s.size + d = n) (h : At a.toList b.toList t s.toList d k) :
    Calls Tryd.prog 26 #[.string s, .int .i64 n, .string a, .string b, .int .i64 k] w fun e w' => ∃ r : ByteArray, e = .returned (.string r) ∧ r.toList = t ∧ Below w.heap.size w w' := by
  have HM : Hid (∀ d, Said a b n d) := many_any a b n hb hn1 hn11
  go_enter Tryd.func26, Tryd.ntmps26
  go_wp2
  go_loopw [0, 4] (fun v kv wr => ∃ (s' : ByteArray) (d' : Nat) (k' : Int), v = .string s' ∧ kv = .int .i64 k' ∧ Hid (s'.size + d' = n) ∧ Hid (At a.toList b.toList t s'.toList d' k') ∧ Below w.heap.size w wr)
    (fun v _ _ => 20 - (match v with | .string L => L.size | _ => 0))
  case atStart => exact ⟨s, d, k, rfl, rfl, hn, h, Below.refl _ _⟩
  case round =>
    clear h hn
    obtain ⟨s', d', k', rfl, rfl, Hn, Hat, hbel⟩ := hrel
    have hs11 : s'.size ≤ 11 := by have := Hn.out; omega
    cases d' with
    | zero =>
      have hc : ¬ (s'.size : Int) < n := by have := Hn.out; omega
      have HT : Hid (s'.toList = t) := Hat.out.zero.symm
      go_wp2_with fail
      go_ret
      exact ⟨s', rfl, HT.out, hbel⟩
    | succ dd =>
      have hc : (s'.size : Int) < n := by have := Hn.out; omega
      go_wp2_with fail
      go_loopw [0, 4, 11] (fun v kv i wi => ∃ (c q : Int) (j : Nat), Hid (c = 97 + j) ∧ 97 ≤ c ∧ c ≤ 123 ∧ i = .int .i64 c ∧ v = .string s' ∧ kv = .int .i64 q ∧ Hid (q = k' - Pm.upto a.toList b.toList s'.toList dd j) ∧ 0 ≤ q ∧ q ≤ 3670344486987776 ∧ Below w.heap.size w wi) (fun _ _ i _ => 123 - (intOf i).toNat)
      case atStart =>
        have h1 := Hat.out.bound
        have h2 : (Pm.run a.toList b.toList s'.toList (dd + 1)).length ≤ 3670344486987776 := Nat.le_trans (Pm.run_le _ _ _ _) (pow26 _ (by have := Hn.out; omega))
        exact ⟨97, k', 0, rfl, by omega, by omega, rfl, rfl, rfl, by unfold Hid; rw [Pm.upto_zero]; omega, by omega, by omega, hbel⟩
      case round =>
        clear hbel
        obtain ⟨c, q, j, Hc, hc0, hc1, rfl, rfl, rfl, Hq, hq0, hq1, hbel⟩ := hrel
        by_cases hct : c ≤ 122
        · have hj26 : j < 26 := by have := Hc.out; omega
          have hcv := fun w => run_bytes_of_string (P := Tryd.prog) w 9 56 5 s' Tryd.underlying9 Tryd.underlying56 Tryd.underlying5
          have HCC : Hid (c = ((UInt8.ofNat (97 + j)).toNat : Int)) := by
            unfold Hid
            have : (UInt8.ofNat (97 + j)).toNat = 97 + j := by simp; omega
            rw [this, Hc.out]; omega
          obtain ⟨T, hT⟩ : ∃ T : ByteArray, T = ⟨(s'.toList ++ [UInt8.ofNat (97 + j)]).toArray⟩ := ⟨_, rfl⟩
          have HT : Hid (T = ⟨(s'.toList ++ [UInt8.ofNat (97 + j)]).toArray⟩) := hT
          have HTl : Hid (T.toList = s'.toList ++ [UInt8.ofNat (97 + j)]) := by unfold Hid; rw [hT, ByteArray.toList_mk]
          have HTs : Hid (T.size + dd = n) := by
            unfold Hid; rw [← len_eq, HTl.out]; simp [len_eq]; have := Hn.out; omega
          have HTz : Hid (T.size = s'.size + 1) := by have h1 := HTs.out; have h2 := Hn.out; unfold Hid; omega
          have HS2 : Hid (Pm.upto a.toList b.toList s'.toList dd (j + 1) = Pm.upto a.toList b.toList s'.toList dd j + (Pm.run a.toList b.toList T.toList dd).length) := by
            unfold Hid; rw [HTl.out]; exact Pm.upto_succ _ _ _ _ _ hj26
          obtain ⟨m, hm⟩ : ∃ m : Nat, m = (Pm.run a.toList b.toList T.toList dd).length := ⟨_, rfl⟩
          have HMm : Hid (m = (Pm.run a.toList b.toList T.toList dd).length) := hm
          have hm1 : m ≤ 3670344486987776 := by rw [hm]; exact Nat.le_trans (Pm.run_le _ _ _ _) (pow26 _ (by have := Hn.out; omega))
          have hBr : w.heap.size ≤ wr.heap.size := hbel.size
          clear hT hm
          by_cases hqm : q < m
          · have HN2 : Hid (At a.toList b.toList t T.toList dd q) := by
              unfold Hid
              rw [HTl.out, Hq.out]
              exact Hat.out.next hj26 (by have := Hq.out; omega) (by rw [← Hq.out, ← HTl.out, ← HMm.out]; exact hqm)
            go_wp2_with (at_builtin; refine wpList_push_laid wr rfl (.tmp 24) (.tmp 27) rfl w.heap.size s' _ (UInt8.ofNat (97 + j)) _ rfl rfl (by omega) hBr HCC.out T HT.out ?_; intro g cap w1 hb1 hrd; have hcv2 := hrd w1 (Below.refl _ _); clear hcv)
            refine (HM.out dd T _ HTs.out).mono ?_
            rintro e w2 ⟨rfl, hb2⟩
            rw [← HMm.out]
            have hb3 : Below w.heap.size w w2 := (hbel.trans hb1).trans (hb2.mono (Nat.le_trans hBr hb1.size))
            have hcv3 := hrd w2 hb2
            clear hcv2 hb1 hb2 hrd
            go_wp2_with fail
            go_roundw
            case rel => exact ⟨T, dd, q, rfl, rfl, HTs, HN2, hb3⟩
            case measure =>
              have h1 := HTz.out
              have h2 := Hn.out
              show 20 - T.size < 20 - s'.size
              omega
          · go_wp2_with (at_builtin; refine wpList_push_laid wr rfl (.tmp 24) (.tmp 27) rfl w.heap.size s' _ (UInt8.ofNat (97 + j)) _ rfl rfl (by omega) hBr HCC.out T HT.out ?_; intro g cap w1 hb1 hrd; have hcv2 := hrd w1 (Below.refl _ _); clear hcv hrd)
            refine (HM.out dd T _ HTs.out).mono ?_
            rintro e w2 ⟨rfl, hb2⟩
            rw [← HMm.out]
            have hb3 : Below w.heap.size w w2 := (hbel.trans hb1).trans (hb2.mono (Nat.le_trans hBr hb1.size))
            clear hcv2 hb1 hb2
            go_wp2_with fail
            go_roundw
            case rel => exact ⟨c + 1, q - m, j + 1, by have := Hc.out; unfold Hid; omega, by omega, by omega, rfl, rfl, rfl, by unfold Hid; rw [HS2.out, Hq.out, ← HMm.out]; omega, by omega, by omega, hb3⟩
            case measure => simp [intOf]; omega
        · exfalso
          have hj26 : j = 26 := by have := Hc.out; omega
          have h1 := Hat.out.bound
          have h2 := Hq.out
          rw [hj26, Pm.upto_all] at h2
          omega

end Qe
end Go.Proofs.YtekcjhembcdgfaaDoor
