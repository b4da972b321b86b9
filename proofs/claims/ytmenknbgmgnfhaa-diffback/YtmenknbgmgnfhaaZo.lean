/- There and back: the walk. -/
import Derived.Test.YtmenknbgmgnfhaaZn
namespace Go.Proofs.Ytmenknbgmgnfhaa
namespace Zo
set_option linter.unusedVariables false
set_option linter.unusedSimpArgs false
open Go.ChangeShapes Go.WideShapes Go.ChangeAt Go.RowKit Ka Kb Zb Zc Zd Ze Zf Zg Zh Zi Zj Zm Zn

theorem diff_some (a b : ByteArray) (w : World) (ha : a.size ≤ maxLen) (hb : b.size ≤ maxLen) :
    Calls Try.prog 6 #[.string a, .string b] w fun e w' => ∃ p n c E, e = .returned (.tuple #[.slice p n c, E]) ∧ Hid (Below w.heap.size w w') := by
  by_cases h : 200 < a.size ∨ 200 < b.size
  · refine (diff_no a b w ha hb h).mono ?_
    rintro e w' ⟨rfl, rfl⟩
    exact ⟨_, _, _, _, rfl, Below.refl _ _⟩
  · refine (diff_at a b w (by omega) (by omega)).mono ?_
    rintro e w' ⟨p, n, c, l, rfl, _, _, _, HB⟩
    exact ⟨_, _, _, _, rfl, HB⟩
theorem apply_dl (a b : ByteArray) (R : Nat → Prop) (v : Value) (l : List Fr) (w : World) (h : FrsJ R w v l) (ha : a.size ≤ 200) (hb : b.size ≤ 200) (hl : l.length ≤ 200) (hz : ∀ x ∈ l, x.2.2.size ≤ 200) (hr : run a.toList (eds l) = some b.toList) :
    Calls Try.prog 8 #[.string a, v] w fun e w' => e = .returned (.tuple #[.string b, .nilIface]) ∧ Hid (Below w.heap.size w w') := by
  have C := apply_any a R v l w h (by unfold maxLen; omega) (fun x hx => by have := hz x hx; omega)
  have e1 : appE a.toList (eds l) = 0 := by
    rw [appE, if_neg (by rw [Kb.len_eq, eds, List.length_map]; omega), hr]
    show (if 200 < b.toList.length then (4 : Int) else 0) = 0
    rw [if_neg (by rw [Kb.len_eq]; omega)]
  have e2 : appR a.toList (eds l) = b.toList := by rw [appR, e1, hr]; rfl
  rw [e1, e2, bs_back, errV_zero] at C
  exact C
theorem turn_dl (a b : ByteArray) (R : Nat → Prop) (v : Value) (l : List Fr) (w : World) (h : FrsJ R w v l) (ha : a.size ≤ 200) (hb : b.size ≤ 200) (hl : l.length ≤ 200) (hz : ∀ x ∈ l, x.2.2.size ≤ 200) (hr : run a.toList (eds l) = some b.toList) :
    Calls Try.prog 9 #[.string a, v] w fun e w' => ∃ p n c T, e = .returned (.tuple #[.slice p n c, .nilIface]) ∧ Hid (FrsJ (New w.heap.size w') w' (.slice p n c) T) ∧ Hid (eds T = turn a.toList (eds l) ∧ T.length = l.length) ∧ Hid (∀ x ∈ T, x.2.2.size ≤ 200) ∧ Hid (Below w.heap.size w w') := by
  have e1 : appE a.toList (eds l) = 0 := by
    rw [appE, if_neg (by rw [Kb.len_eq, eds, List.length_map]; omega), hr]
    show (if 200 < b.toList.length then (4 : Int) else 0) = 0
    rw [if_neg (by rw [Kb.len_eq]; omega)]
  refine (turn_yes a R v l w h ha hl (fun x hx => by have := hz x hx; omega) e1 (by rw [hr]; rfl)).mono ?_
  rintro e w' ⟨v', T, rfl, HR, HE, HS, HB⟩
  obtain ⟨p, n, c, rfl, hn⟩ := own_shape HR.out
  refine ⟨p, n, c, T, rfl, (FrsJ.own HR.out).mono fun g hg => ⟨own_ge HR.out g hg, (own_lt HR.out g hg).1⟩, ⟨HE.out, ?_⟩, HS, HB⟩
  have := congrArg List.length HE.out
  rw [eds, List.length_map, turn_len, eds, List.length_map] at this
  exact this
theorem cat_one : least [99, 97, 116] [99, 97, 114, 116] = 1 := least_put [99, 97] [116] [114]

set_option maxRecDepth 100000 in
set_option maxHeartbeats 4000000 in
theorem walk (a b c : ByteArray) (w : World) (ha : a.size ≤ maxLen) (hb : b.size ≤ maxLen) (hc : c.size ≤ maxLen) :
    Calls Try.prog 3 #[.string a, .string b, .string c] w fun e w' => e = .returned (.bool true) ∧ Below w.heap.size w w' := by
  have D0 := diff_at ⟨#[99, 97, 116]⟩ ⟨#[99, 97, 114, 116]⟩ w (by decide) (by decide)
  rw [show (⟨#[99, 97, 116]⟩ : ByteArray).toList = [99, 97, 116] from toList_mk [99, 97, 116], show (⟨#[99, 97, 114, 116]⟩ : ByteArray).toList = [99, 97, 114, 116] from toList_mk [99, 97, 114, 116]] at D0
  by_cases hbig : 200 < a.size ∨ 200 < b.size ∨ 200 < c.size
  · by_cases h1 : 200 < a.size ∨ 200 < b.size
    · have D1 := fun W => diff_no a b W ha hb h1
      have D2 := fun W => diff_some b c W hb hc
      have D3 := fun W => diff_some a c W ha hc
      clear hbig h1 ha hb hc
      go_enter Try.func3, Try.ntmps3
      go_wp2_with fail
      refine D0.mono ?_
      rintro e w1 ⟨p1, n1, c1, l1, rfl, _, HF1, HD1, HB1⟩
      clear D0
      go_wp2_with fail
      refine (cost_at _ (.slice p1 n1 c1) l1 _ _ w1 HF1.out HD1.out (by decide) (by decide)).mono ?_
      rw [cat_one]
      rintro e w2 ⟨rfl, hb2⟩
      have HB2 : Hid (Below w.heap.size w w2) := bel HB1.out hb2
      clear hb2 HB1
      go_wp2_with fail
      refine (D1 w2).mono ?_
      rintro e w3 ⟨rfl, rfl⟩
      go_wp2_with fail
      refine (D2 _).mono ?_
      rintro e w4 ⟨p4, n4, c4, E4, rfl, HB4⟩
      go_wp2_with fail
      refine (D3 _).mono ?_
      rintro e w5 ⟨p5, n5, c5, E5, rfl, HB5⟩
      go_wp2_with fail
      go_ret
      exact ⟨rfl, bel HB2.out (bel HB4.out HB5.out)⟩
    · have ha2 : a.size ≤ 200 := by omega
      have hb2 : b.size ≤ 200 := by omega
      have hc2 : 200 < c.size := by omega
      have D1 := fun W => diff_at a b W ha2 hb2
      have D2 := fun W => diff_no b c W hb hc (Or.inr hc2)
      have D3 := fun W => diff_some a c W ha hc
      clear hbig h1 ha hb hc ha2 hb2 hc2
      go_enter Try.func3, Try.ntmps3
      go_wp2_with fail
      refine D0.mono ?_
      rintro e w1 ⟨p1, n1, c1, l1, rfl, _, HF1, HD1, HB1⟩
      clear D0
      go_wp2_with fail
      refine (cost_at _ (.slice p1 n1 c1) l1 _ _ w1 HF1.out HD1.out (by decide) (by decide)).mono ?_
      rw [cat_one]
      rintro e w2 ⟨rfl, hb2⟩
      have HB2 : Hid (Below w.heap.size w w2) := bel HB1.out hb2
      clear hb2 HB1
      go_wp2_with fail
      refine (D1 w2).mono ?_
      rintro e w3 ⟨p3, n3, c3, l3, rfl, _, _, _, HB3⟩
      go_wp2_with fail
      refine (D2 _).mono ?_
      rintro e w4 ⟨rfl, rfl⟩
      go_wp2_with fail
      refine (D3 _).mono ?_
      rintro e w5 ⟨p5, n5, c5, E5, rfl, HB5⟩
      go_wp2_with fail
      go_ret
      exact ⟨rfl, bel HB2.out (bel HB3.out HB5.out)⟩
  · have ha2 : a.size ≤ 200 := by omega
    have hb2 : b.size ≤ 200 := by omega
    have hc2 : c.size ≤ 200 := by omega
    have HLA : Hid (a.toList.length ≤ 200) := by rw [Hid, Kb.len_eq]; exact ha2
    have HLB : Hid (b.toList.length ≤ 200) := by rw [Hid, Kb.len_eq]; exact hb2
    have HLC : Hid (c.toList.length ≤ 200) := by rw [Hid, Kb.len_eq]; exact hc2
    have hA2 := Hid.out (show Hid (a.size ≤ 200) from ha2)
    have HA : Hid (a.size ≤ 200) := ha2
    have HB : Hid (b.size ≤ 200) := hb2
    have HC : Hid (c.size ≤ 200) := hc2
    have htri := least_tri a.toList b.toList c.toList
    have hle1 : least a.toList b.toList ≤ 400 := by
      have := least_add a.toList b.toList; have := HLA.out; have := HLB.out; omega
    have hle2 : least b.toList c.toList ≤ 400 := by
      have := least_add b.toList c.toList; have := HLB.out; have := HLC.out; omega
    obtain ⟨K1, hK1⟩ : ∃ k, k = least a.toList b.toList := ⟨_, rfl⟩
    obtain ⟨K2, hK2⟩ : ∃ k, k = least b.toList c.toList := ⟨_, rfl⟩
    obtain ⟨K3, hK3⟩ : ∃ k, k = least a.toList c.toList := ⟨_, rfl⟩
    rw [← hK1, ← hK2, ← hK3] at htri
    rw [← hK1] at hle1
    rw [← hK2] at hle2
    have HK1 : Hid (least a.toList b.toList = K1) := hK1.symm
    have HK2 : Hid (least b.toList c.toList = K2) := hK2.symm
    have HK3 : Hid (least a.toList c.toList = K3) := hK3.symm
    have htz : (K3 : Int) ≤ (K1 : Int) + (K2 : Int) := by omega
    clear hbig ha hb hc ha2 hb2 hc2 hA2 hK1 hK2 hK3 htri
    go_enter Try.func3, Try.ntmps3
    go_wp2_with fail
    refine D0.mono ?_
    rintro e w1 ⟨p1, n1, c1, l1, rfl, _, HF1, HD1, HB1⟩
    clear D0
    go_wp2_with fail
    refine (cost_at _ (.slice p1 n1 c1) l1 _ _ w1 HF1.out HD1.out (by decide) (by decide)).mono ?_
    rw [cat_one]
    rintro e w2 ⟨rfl, hb2⟩
    have HB2 : Hid (Below w.heap.size w w2) := bel HB1.out hb2
    clear hb2 HB1 HF1 HD1
    go_wp2_with fail
    refine (diff_at a b w2 HA.out HB.out).mono ?_
    rintro e w3 ⟨p3, n3, c3, l3, rfl, HN3, HF3, HD3, HB3⟩
    go_wp2_with fail
    refine (diff_at b c w3 HB.out HC.out).mono ?_
    rintro e w4 ⟨p4, n4, c4, l4, rfl, HN4, HF4, HD4, HB4⟩
    go_wp2_with fail
    refine (diff_at a c w4 HA.out HC.out).mono ?_
    rintro e w5 ⟨p5, n5, c5, l5, rfl, HN5, HF5, HD5, HB5⟩
    have HF35 : Hid (FrsJ (New w2.heap.size w3) w5 (.slice p3 n3 c3) l3) := (HF3.out.below HB4.out).below HB5.out
    have HL3 : Hid (l3.length ≤ 200) := by have := HD3.out.len HLA.out HLB.out; unfold Hid; omega
    go_wp2_with fail
    refine (apply_dl a b _ (.slice p3 n3 c3) l3 w5 HF35.out HA.out HB.out HL3.out HD3.out.sz HD3.out.run).mono ?_
    rintro e w6 ⟨rfl, HB6⟩
    go_wp2_with fail
    refine (turn_dl a b _ (.slice p3 n3 c3) l3 w6 (HF35.out.below HB6.out) HA.out HB.out HL3.out HD3.out.sz HD3.out.run).mono ?_
    rintro e w7 ⟨p7, n7, c7, T7, rfl, HF7, HE7, HS7, HB7⟩
    go_wp2_with fail
    refine (apply_dl b a _ (.slice p7 n7 c7) T7 w7 HF7.out HB.out HA.out (by rw [HE7.out.2]; exact HL3.out) HS7.out (by rw [HE7.out.1]; exact turn_run HD3.out.run)).mono ?_
    rintro e w8 ⟨rfl, HB8⟩
    go_wp2_with fail
    refine (diff_at a a w8 HA.out HA.out).mono ?_
    rintro e w9 ⟨p9, n9, c9, l9, rfl, HN9, HF9, HD9, HB9⟩
    have hn9 : n9 = 0 := by
      have h9 := congrArg List.length HD9.out.eq
      rw [dif_self, eds, List.length_map] at h9
      rw [HN9.out]; exact h9
    subst hn9
    have HB59 : Hid (Below w5.heap.size w5 w9) := bel HB6.out (bel HB7.out (bel HB8.out HB9.out))
    go_wp2_with fail
    refine (cost_at _ (.slice p5 n5 c5) l5 a.toList c.toList w9 (HF5.out.below HB59.out) HD5.out HLA.out HLC.out).mono ?_
    rw [HK3.out]
    rintro e w10 ⟨rfl, hb10⟩
    have HB510 : Hid (Below w5.heap.size w5 w10) := bel HB59.out hb10
    clear hb10
    go_wp2_with fail
    refine (cost_at _ (.slice p3 n3 c3) l3 a.toList b.toList w10 (HF35.out.below HB510.out) HD3.out HLA.out HLB.out).mono ?_
    rw [HK1.out]
    rintro e w11 ⟨rfl, hb11⟩
    have HB511 : Hid (Below w5.heap.size w5 w11) := bel HB510.out hb11
    clear hb11
    go_wp2_with fail
    refine (cost_at _ (.slice p4 n4 c4) l4 b.toList c.toList w11 ((HF4.out.below HB5.out).below HB511.out) HD4.out HLB.out HLC.out).mono ?_
    rw [HK2.out]
    rintro e w12 ⟨rfl, hb12⟩
    have HB512 : Hid (Below w5.heap.size w5 w12) := bel HB511.out hb12
    clear hb12
    go_wp2_with fail
    go_ret
    exact ⟨rfl, bel HB2.out (bel HB3.out (bel HB4.out (bel HB5.out HB512.out)))⟩

end Zo
end Go.Proofs.Ytmenknbgmgnfhaa
