
import Derived.Test.YtnbnniapllkjlaaGreatDoorBa
import Derived.Test.YtnbnniapllkjlaaGreatDoorJ7
namespace Go.Proofs.YtnbnniapllkjlaaGreatDoor
namespace Bb
set_option linter.unusedVariables false
set_option linter.unusedSimpArgs false
open Go.ChangeShapes Go.WideShapes Go.ChangeAt Go.RowKit Cm Ka Kb Na Om Oa Oz Oc Og Oi Hm Um Ba
open La (bel bel_drew errV_zero errV_ne own_ge own_grow own_below Lies)
set_option maxHeartbeats 1000000 in
theorem strikes_ref (v : Value) (l : List Ox) (p : ByteArray) (w : World) (h : OpsAt w v l) (hn : l.length ≤ 1048576) :
    Calls Tryz.prog 34 #[v, .string p] w fun e w' => e = .returned (.int .i64 (cnt l p)) ∧ w' = w := by
  obtain ⟨q, c, rfl, hk, _⟩ := h
  obtain ⟨n, hl⟩ : ∃ n, l.length = n := ⟨_, rfl⟩
  rw [hl] at hn ⊢
  have HL : Hid (l.length = n) := hl
  have HK : Hid (OpsIn w q l) := hk
  clear hl hk
  go_enter Tryz.func34, Tryz.ntmps34
  go_wp2
  go_loop [5, 6] (fun s i => ∃ k : Nat, k ≤ n ∧ i = .int .i64 k ∧ s = .int .i64 (cnt (l.take k) p)) (fun _ i => n - (intOf i).toNat)
  case atStart => exact ⟨0, by omega, rfl, rfl⟩
  case round =>
    obtain ⟨k, hkn, rfl, rfl⟩ := hrel
    by_cases hlt : k < n
    · have hltz : (k : Int) < n := by omega
      obtain ⟨b, o, rfl, hc⟩ := HK.out.some (by intro e; have := HL.out; rw [e] at this; simp at this; omega)
      obtain ⟨vs, ⟨e0, e1, e2, e3, e4, e5⟩, _⟩ := hc k (by rw [HL.out]; exact hlt)
      have HT : Hid (cnt (l.take (k + 1)) p = cnt (l.take k) p + (if (l.getD k oz).2.1 = 2 ∧ (l.getD k oz).2.2.1 = p then 1 else 0)) := cnt_take (by rw [HL.out]; exact hlt) p
      have hle : cnt (l.take k) p ≤ 1048576 := by
        have := cnt_le (l.take k) p
        rw [List.length_take] at this; omega
      obtain ⟨x, hx⟩ : ∃ x, l.getD k oz = x := ⟨_, rfl⟩
      rw [hx] at e2 e3 HT
      obtain ⟨d, t, pp, cc, ss⟩ := x
      dsimp only at e2 e3 HT
      clear hx hc e0 e1 e4 e5
      generalize cnt (l.take k) p = C at HT hle ⊢
      by_cases h1 : t = 2
      · subst h1
        cases h2 : (pp.toList == p.toList)
        case true =>
          have h3 : pp = p := mk_eq (by simpa using h2)
          have HS : Hid (cnt (l.take (k + 1)) p = C + 1) := by rw [Hid, HT.out, if_pos ⟨rfl, h3⟩]
          clear h3
          go_wp2_with fail
          go_round
          case rel => exact ⟨k + 1, by omega, by go_num, by rw [HS.out]; go_num⟩
          case measure => simp [intOf]; omega
        case false =>
          have HS : Hid (cnt (l.take (k + 1)) p = C) := by rw [Hid, HT.out, if_neg (fun h => by rw [h.2] at h2; simp at h2)]; rfl
          go_wp2_with fail
          go_round
          case rel => exact ⟨k + 1, by omega, by go_num, by rw [HS.out]⟩
          case measure => simp [intOf]; omega
      · have h1b : (t == 2) = false := by simpa using h1
        have HS : Hid (cnt (l.take (k + 1)) p = C) := by rw [Hid, HT.out, if_neg (fun h => h1 h.1)]; rfl
        go_wp2_with fail
        go_round
        case rel => exact ⟨k + 1, by omega, by go_num, by rw [HS.out]⟩
        case measure => simp [intOf]; omega
    · have hkk : ¬ (k : Int) < n := by omega
      have HC : Hid (cnt (l.take k) p = cnt l p) := by rw [Hid, List.take_of_length_le (by rw [HL.out]; omega)]
      go_wp2_with fail
      go_ret
      exact ⟨ret_int (by rw [HC.out]), rfl⟩
end Bb
end Go.Proofs.YtnbnniapllkjlaaGreatDoor
