/- What the reference says of a number's digits, a text that is a number, a text cut at its dots, and a vector that is read. -/
import Derived.Test.YtllcmfbkingfdaaGreatDoorRa
import Derived.Test.YtllcmfbkingfdaaGreatDoorDl
import Derived.Maps.AppendAt
namespace Go.Proofs.YtllcmfbkingfdaaGreatDoor
namespace Rb
set_option linter.unusedVariables false
open Go.ChangeShapes Go.WideShapes Go.ChangeAt Go.RowKit Za Ra

theorem dec_len (u : Nat) : (Lib.decDigits u).length ≤ u + 1 := by
  induction u using Nat.strongRecOn with
  | _ u ih =>
    by_cases h : u < 10
    · rw [Lib.decDigits, dif_pos h]; simp
    · rw [Lib.decDigits, dif_neg h]
      have := ih (u / 10) (by omega)
      simp; omega

theorem digits_any : ∀ (u : Nat), u ≤ 1000000 → ∀ (n : Int) (w : World), n = u →
    Calls Tryz.prog 12 #[.int .i64 n] w fun e w' => e = .returned (.string ⟨(Lib.decDigits u).toArray⟩) ∧ w' = w := by
  intro u
  induction u using Nat.strongRecOn with
  | _ u ih =>
    intro hu n w hn
    have h0 : 0 ≤ n := by omega
    have h6 : n ≤ 1000000 := by omega
    by_cases h10 : u < 10
    · have hn10 : n < 10 := by omega
      have HE : Hid ((⟨(Lib.decDigits u).toArray⟩ : ByteArray) = ten.extract n.toNat (n + 1).toNat) := by
        unfold Hid; rw [show n.toNat = u by omega, show (n + 1).toNat = u + 1 by omega, ten_piece u h10, Lib.decDigits_one h10]
      clear ih hn
      go_enter Tryz.func12, Tryz.ntmps12
      go_wp2
      go_ret
      refine ⟨?_, rfl⟩
      rw [HE.out]; rfl
    · have C := ih (u / 10) (by omega) (by omega) (n / 10) w (by omega)
      have HE : Hid ((⟨(Lib.decDigits u).toArray⟩ : ByteArray) = (⟨(Lib.decDigits (u / 10)).toArray⟩ : ByteArray) ++ ten.extract (n % 10).toNat (n % 10 + 1).toNat) := by
        unfold Hid
        rw [show (n % 10).toNat = u % 10 by omega, show (n % 10 + 1).toNat = u % 10 + 1 by omega, ten_piece _ (by omega), Lib.decDigits, dif_neg h10]
        apply ByteArray.ext
        rw [ByteArray.data_append]
        simp
      have hn10 : ¬ n < 10 := by omega
      have hr0 : 0 ≤ n % 10 := by omega
      have hr9 : n % 10 < 10 := by omega
      obtain ⟨X, hX⟩ : ∃ X : ByteArray, X = ⟨(Lib.decDigits (u / 10)).toArray⟩ := ⟨_, rfl⟩
      have hXs : X.size ≤ 100001 := by
        have h1 := dec_len (u / 10)
        have h2 : X.size = (Lib.decDigits (u / 10)).length := by rw [hX]; rfl
        omega
      rw [← hX] at C HE
      clear ih hn hX
      go_enter Tryz.func12, Tryz.ntmps12
      go_wp2_with (go_at_call 12; refine C.mono ?_; rintro e w' ⟨rfl, hw⟩; have hw2 := hw.symm; subst hw2; clear hw)
      go_ret
      refine ⟨?_, rfl⟩
      rw [HE.out]; rfl

/-! a text that is a number -/
theorem dec_take {l : List UInt8} {k u : Nat} {c : UInt8} (h : Lib.decFrom 0 (l.take k) = some u) (hk : l[k]? = some c) : Lib.decFrom 0 (l.take (k + 1)) = (Lib.digitVal c).map fun d => u * 10 + d := by
  obtain ⟨hlt, e⟩ := List.getElem?_eq_some_iff.1 hk
  rw [List.take_succ_eq_append_getElem hlt, Dm.decFrom_append, h, e]; rfl
theorem dec_lt {l : List UInt8} : ∀ {k u : Nat}, Lib.decFrom 0 (l.take k) = some u → u < 10 ^ k := by
  intro k
  induction k with
  | zero => intro u h; simp [Lib.decFrom] at h; subst h; decide
  | succ k ih =>
    intro u h
    by_cases hk : k < l.length
    · cases h1 : Lib.decFrom 0 (l.take k) with
      | none =>
        rw [List.take_succ_eq_append_getElem hk, Dm.decFrom_append, h1] at h; cases h
      | some v =>
        rw [dec_take h1 (List.getElem?_eq_getElem hk)] at h
        cases h2 : Lib.digitVal l[k] with
        | none => rw [h2] at h; cases h
        | some d =>
          rw [h2] at h
          simp only [Option.map_some, Option.some.injEq] at h
          have := ih h1
          have := (Dm.digitVal_some h2).1
          rw [Nat.pow_succ]; omega
    · rw [List.take_of_length_le (by omega)] at h
      have h2 := ih (u := u) (by rw [List.take_of_length_le (by omega)]; exact h)
      rw [Nat.pow_succ]; omega
theorem dec_bad {l : List UInt8} {k : Nat} {c : UInt8} (hk : l[k]? = some c) (h : Lib.digitVal c = none) : Lib.decFrom 0 l = none := by
  cases hd : Lib.decFrom 0 l with
  | none => rfl
  | some u =>
    obtain ⟨d, e⟩ := Lib.digit_of_decFrom l 0 u hd k c hk
    rw [h] at e; cases e
theorem byte_at (s : ByteArray) (k : Nat) (h : k < s.size) : s.data.toList[k]? = some s[k] := by
  have : k < s.data.toList.length := h
  rw [List.getElem?_eq_getElem this]; rfl

def numV (l : List UInt8) : Int := ((Dm.refO l).getD 0 : Nat)
theorem digit_in {c : UInt8} (h1 : ¬ (c.toNat : Int) < 48) (h2 : ¬ 57 < (c.toNat : Int)) : Lib.digitVal c = some (c.toNat - 48) := by
  unfold Lib.digitVal; rw [if_pos (by omega)]
theorem digit_out {c : UInt8} (h : (c.toNat : Int) < 48 ∨ 57 < (c.toNat : Int)) : Lib.digitVal c = none := by
  unfold Lib.digitVal; rw [if_neg (by omega)]

set_option maxHeartbeats 1000000 in
theorem number_any (s : ByteArray) (w : World) (hs : s.size ≤ 1048576) :
    Calls Tryz.prog 30 #[.string s, .int .i64 9] w fun e w' => e = .returned (.tuple #[.int .i64 (numV s.data.toList), .bool (Dm.refO s.data.toList).isSome]) ∧ w' = w := by
  have hlen : s.data.toList.length = s.size := rfl
  by_cases he : s.size = 0
  · have HR : Hid (Dm.refO s.data.toList = none) := by
      unfold Hid Dm.refO; rw [if_pos (Or.inl (List.eq_nil_of_length_eq_zero (hlen.trans he)))]
    have h1 : s.toList.isEmpty = true := by
      rw [ByteArray.toList_eq, List.eq_nil_of_length_eq_zero (hlen.trans he)]; rfl
    clear hlen
    go_enter Tryz.func30, Tryz.ntmps30
    go_wp2
    go_ret2
    exact ⟨by unfold numV; rw [HR.out]; rfl, rfl⟩
  have h1 : s.toList.isEmpty = false := by
    rw [ByteArray.toList_eq]
    cases hh : s.data.toList with
    | nil => rw [hh] at hlen; simp at hlen; omega
    | cons a t => rfl
  by_cases h9 : 9 < s.size
  · have HR : Hid (Dm.refO s.data.toList = none) := by
      unfold Hid Dm.refO; rw [if_pos (Or.inr (Or.inl (by rw [hlen]; exact h9)))]
    clear hlen
    go_enter Tryz.func30, Tryz.ntmps30
    go_wp2
    go_ret2
    exact ⟨by unfold numV; rw [HR.out]; rfl, rfl⟩
  have hp : 0 < s.size := by omega
  have hb0 := byte_at s 0 hp
  have hhd : s.data.toList.head? = some s[0] := by rw [List.head?_eq_getElem?]; exact hb0
  by_cases h48 : (s[0].toNat : Int) = 48
  · by_cases hs1 : 1 < s.size
    · have HR : Hid (Dm.refO s.data.toList = none) := by
        unfold Hid Dm.refO
        rw [if_pos (Or.inr (Or.inr ⟨by rw [hhd]; congr 1; apply UInt8.toNat_inj.1; simp; omega, by rw [hlen]; exact hs1⟩))]
      have hq : ((s[0].toNat : Int) == 48) = true := by simp [h48]
      clear hlen hb0 hhd h48
      go_enter Tryz.func30, Tryz.ntmps30
      go_wp2
      go_ret2
      exact ⟨by unfold numV; rw [HR.out]; rfl, rfl⟩
    · have HR : Hid (Dm.refO s.data.toList = Lib.decFrom 0 s.data.toList) := by
        unfold Hid Dm.refO
        rw [if_neg]
        rintro (h | h | h)
        · rw [h] at hlen; simp at hlen; omega
        · omega
        · omega
      have hq : ((s[0].toNat : Int) == 48) = true := by simp [h48]
      clear hlen hb0 hhd h48
      go_enter Tryz.func30, Tryz.ntmps30
      go_wp2
      go_loop [6, 7] (fun v i => ∃ (k u : Nat), k ≤ s.size ∧ i = .int .i64 k ∧ (∃ n : Int, v = .int .i64 n ∧ Hid (n = u) ∧ 0 ≤ n ∧ n < 1000000000000) ∧ Hid (Lib.decFrom 0 (s.data.toList.take k) = some u)) (fun _ i => s.size - (intOf i).toNat)
      case atStart => exact ⟨0, 0, by omega, rfl, ⟨0, rfl, rfl, by omega, by omega⟩, rfl⟩
      case round =>
        obtain ⟨k, u, hk, rfl, ⟨n, rfl, HN, hn0, hn9⟩, HD⟩ := hrel
        by_cases hlt : k < s.size
        · have hb : s[k].toNat < 256 := UInt8.toNat_lt _
          have HBY : Hid (s.data.toList[k]? = some s[k]) := byte_at s k hlt
          have hub : n < 1000000000 := by
            have e1 := dec_lt HD.out
            have e2 : (10 : Nat) ^ k ≤ 10 ^ 9 := Nat.pow_le_pow_right (by decide) (by omega)
            have e3 := HN.out
            have e4 : (10 : Nat) ^ 9 = 1000000000 := by decide
            omega
          by_cases g1 : (s[k].toNat : Int) < 48
          · have HX : Hid (Dm.refO s.data.toList = none) := by unfold Hid; rw [HR.out]; exact dec_bad HBY.out (digit_out (Or.inl g1))
            go_wp2
            go_ret2
            exact ⟨by unfold numV; rw [HX.out]; rfl, rfl⟩
          · by_cases g2 : 57 < (s[k].toNat : Int)
            · have HX : Hid (Dm.refO s.data.toList = none) := by unfold Hid; rw [HR.out]; exact dec_bad HBY.out (digit_out (Or.inr g2))
              go_wp2
              go_ret2
              exact ⟨by unfold numV; rw [HX.out]; rfl, rfl⟩
            · have HX : Hid (Lib.decFrom 0 (s.data.toList.take (k + 1)) = some (u * 10 + (s[k].toNat - 48))) := by
                unfold Hid; rw [dec_take HD.out HBY.out, digit_in g1 g2]; rfl
              have HX2 : Hid (n * 10 + (s[k].toNat : Int) - 48 = ((u * 10 + (s[k].toNat - 48) : Nat) : Int)) := by
                have := HN.out; unfold Hid; omega
              go_wp2
              go_round
              case rel => exact ⟨k + 1, u * 10 + (s[k].toNat - 48), by omega, by go_num, ⟨_, rfl, HX2, by omega, by omega⟩, HX⟩
              case measure => simp [intOf]; omega
        · have HX : Hid (Dm.refO s.data.toList = some u) := by
            have := HD.out
            rw [List.take_of_length_le (show s.data.toList.length ≤ k by show s.size ≤ k; omega)] at this
            unfold Hid; rw [HR.out]; exact this
          go_wp2
          go_ret2
          refine ⟨?_, rfl⟩
          unfold numV; rw [HX.out]
          have := HN.out
          subst this
          rfl
  · have HR : Hid (Dm.refO s.data.toList = Lib.decFrom 0 s.data.toList) := by
      unfold Hid Dm.refO
      rw [if_neg]
      rintro (h | h | h)
      · rw [h] at hlen; simp at hlen; omega
      · omega
      · rw [hhd] at h
        have := Option.some.inj h.1
        rw [this] at h48
        exact h48 rfl
    have hq : ((s[0].toNat : Int) == 48) = false := by simp; omega
    clear hlen hb0 hhd h48
    go_enter Tryz.func30, Tryz.ntmps30
    go_wp2
    go_loop [6, 7] (fun v i => ∃ (k u : Nat), k ≤ s.size ∧ i = .int .i64 k ∧ (∃ n : Int, v = .int .i64 n ∧ Hid (n = u) ∧ 0 ≤ n ∧ n < 1000000000000) ∧ Hid (Lib.decFrom 0 (s.data.toList.take k) = some u)) (fun _ i => s.size - (intOf i).toNat)
    case atStart => exact ⟨0, 0, by omega, rfl, ⟨0, rfl, rfl, by omega, by omega⟩, rfl⟩
    case round =>
      obtain ⟨k, u, hk, rfl, ⟨n, rfl, HN, hn0, hn9⟩, HD⟩ := hrel
      by_cases hlt : k < s.size
      · have hb : s[k].toNat < 256 := UInt8.toNat_lt _
        have HBY : Hid (s.data.toList[k]? = some s[k]) := byte_at s k hlt
        have hub : n < 1000000000 := by
          have e1 := dec_lt HD.out
          have e2 : (10 : Nat) ^ k ≤ 10 ^ 9 := Nat.pow_le_pow_right (by decide) (by omega)
          have e3 := HN.out
          have e4 : (10 : Nat) ^ 9 = 1000000000 := by decide
          omega
        by_cases g1 : (s[k].toNat : Int) < 48
        · have HX : Hid (Dm.refO s.data.toList = none) := by unfold Hid; rw [HR.out]; exact dec_bad HBY.out (digit_out (Or.inl g1))
          go_wp2
          go_ret2
          exact ⟨by unfold numV; rw [HX.out]; rfl, rfl⟩
        · by_cases g2 : 57 < (s[k].toNat : Int)
          · have HX : Hid (Dm.refO s.data.toList = none) := by unfold Hid; rw [HR.out]; exact dec_bad HBY.out (digit_out (Or.inr g2))
            go_wp2
            go_ret2
            exact ⟨by unfold numV; rw [HX.out]; rfl, rfl⟩
          · have HX : Hid (Lib.decFrom 0 (s.data.toList.take (k + 1)) = some (u * 10 + (s[k].toNat - 48))) := by
              unfold Hid; rw [dec_take HD.out HBY.out, digit_in g1 g2]; rfl
            have HX2 : Hid (n * 10 + (s[k].toNat : Int) - 48 = ((u * 10 + (s[k].toNat - 48) : Nat) : Int)) := by
              have := HN.out; unfold Hid; omega
            go_wp2
            go_round
            case rel => exact ⟨k + 1, u * 10 + (s[k].toNat - 48), by omega, by go_num, ⟨_, rfl, HX2, by omega, by omega⟩, HX⟩
            case measure => simp [intOf]; omega
      · have HX : Hid (Dm.refO s.data.toList = some u) := by
          have := HD.out
          rw [List.take_of_length_le (show s.data.toList.length ≤ k by show s.size ≤ k; omega)] at this
          unfold Hid; rw [HR.out]; exact this
        go_wp2
        go_ret2
        refine ⟨?_, rfl⟩
        unfold numV; rw [HX.out]
        have := HN.out
        subst this
        rfl

end Rb
end Go.Proofs.YtllcmfbkingfdaaGreatDoor
