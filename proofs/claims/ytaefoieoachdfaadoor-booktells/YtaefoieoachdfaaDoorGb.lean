/- Ways of BookTells: by the offset, by the place. -/
import Derived.Test.YtaefoieoachdfaaDoorGa
namespace Go.Proofs.YtaefoieoachdfaaDoor
namespace Gb
set_option linter.unusedVariables false
open Go.ChangeShapes Go.WideShapes Go.ChangeAt Go.RowKit Bm Ka Kb La Lb Lc Ld Le Lf Lg Lh Li Lj Lk Lp Ma Mb Mc Md Me Kt Kl Ga

set_option maxRecDepth 100000 in
set_option maxHeartbeats 8000000 in
theorem wayA (v : Value) (l : List Leaf) (p : ByteArray) (f c : Int) (w0 : World) (h : BookAt w0 v l) (hs : ∀ x ∈ l, x.1.size ≤ maxLen) (hp : p.size ≤ maxLen) (hg : ET w0) (hne : bookE l ≠ 0) :
    Calls Tryd.prog 3 #[v, .string p, .int .i64 f, .int .i64 c] w0 fun e w' => e = .returned (.bool true) ∧ Below w0.heap.size w0 w' := by
  obtain ⟨q, c0, hv, hlf, hc1, hc2, hq0⟩ := id h
  have HBK : Hid (BookAt w0 v l) := h
  have HB0 : Hid (Below w0.heap.size w0 w0) := Below.refl _ _
  have HG : Hid (ET w0) := hg
  obtain ⟨n, hn⟩ : ∃ n, l.length = n := ⟨_, rfl⟩
  have hnm : n ≤ maxLen := by rw [← hn]; exact Nat.le_trans hc1 hc2
  have hw : withE l p = bookE l := by unfold withE; rw [if_pos hne]
  have hw1 : writeE l p c = bookE l := by unfold writeE; rw [hw, if_pos hne]
  have hw2 : writeL l p c = [] := by unfold writeL; rw [hw1, if_neg hne]
  have hs1 : strikeE l p = bookE l := by unfold strikeE; rw [hw, if_pos hne]
  have hs2 : strikeL l p = [] := by unfold strikeL; rw [hs1, if_neg hne]
  have ht : textR l = ⟨#[]⟩ := by unfold textR; rw [if_neg hne]
  have hae : atE l f = bookE l := by unfold atE; rw [if_pos hne]
  have har : atR l f = 0 := by unfold atR; rw [hae, if_neg hne]
  have hof : offR l p = 0 := by unfold offR; rw [hw, if_neg hne]
  obtain ⟨k, hk⟩ : ∃ k, k = bookE l := ⟨_, rfl⟩
  have hkb : (k == 0) = false := by rw [hk]; simpa using hne
  have hev : errV (bookE l) = .iface 71 (.int .i64 k) := by rw [errV_ne hne, hk]
  have CB : Hid (∀ W, Below w0.heap.size w0 W → Calls Tryd.prog 6 #[.slice q n c0] W fun e w' => e = .returned (.int .i64 k) ∧ Below W.heap.size W w') := by
    intro W hb
    have h9 := book_ref q n c0 l W hn (hlf.below hb) hs hnm
    rw [← hk] at h9
    exact h9
  have CC : Hid (∀ W, Below w0.heap.size w0 W → Calls Tryd.prog 8 #[.slice q n c0] W fun e w' => e = .returned (.iface 71 (.int .i64 k)) ∧ Below W.heap.size W w') := by
    intro W hb
    have h9 := check_book q n c0 l W hn (hlf.below hb) hs hnm
    rw [hev] at h9
    exact h9
  have CE : Hid (∀ W, Below w0.heap.size w0 W → Calls Tryd.prog 7 #[.iface 71 (.int .i64 k), .int .i64 k] W fun e w' => e = .returned (.bool true) ∧ Below W.heap.size W w') := by
    intro W hb
    have h9 := err_same k w0 W HG.out hb
    rw [errV_ne (by rw [hk]; exact hne)] at h9
    exact h9
  have CT : Hid (∀ W, Below w0.heap.size w0 W → Calls Tryd.prog 11 #[.slice q n c0] W fun e w' => e = .returned (.tuple #[.string ⟨#[]⟩, .iface 71 (.int .i64 k)]) ∧ Below W.heap.size W w') := by
    intro W hb
    have h9 := text_any q n c0 l W hn (hlf.below hb) hs hnm
    rw [ht, hev] at h9
    exact h9
  have CA : Hid (∀ W, Below w0.heap.size w0 W → Calls Tryd.prog 12 #[.slice q n c0, .int .i64 f] W fun e w' => e = .returned (.tuple #[.int .i64 0, .iface 71 (.int .i64 k)]) ∧ Below W.heap.size W w') := by
    intro W hb
    have h9 := at_any q n c0 l f W hn (hlf.below hb) hs hnm
    rw [har, hae, hev] at h9
    exact h9
  have CO : Hid (∀ W, Below w0.heap.size w0 W → Calls Tryd.prog 16 #[.slice q n c0, .string p] W fun e w' => e = .returned (.tuple #[.int .i64 0, .iface 71 (.int .i64 k)]) ∧ Below W.heap.size W w') := by
    intro W hb
    have h9 := offset_any q n c0 l p W hn (hlf.below hb) hs (by rw [← hn]; exact hc1) hc2 hp
    rw [hof, hw, hev] at h9
    exact h9
  rw [hn] at hv
  subst hv
  have CW : Hid (∀ W, Below w0.heap.size w0 W → Calls Tryd.prog 18 #[.slice q n c0, .string p, .int .i64 c] W fun e w' => ∃ v', e = .returned (.tuple #[v', .iface 71 (.int .i64 k)]) ∧ BookAt w' v' ([]) ∧ Below W.heap.size W w') := by
    intro W hb
    have h9 := write_any _ l p c W (HBK.out.below hb) hs hp
    rw [hw1, hw2, hev] at h9
    exact h9
  have CS : Hid (∀ W, Below w0.heap.size w0 W → Calls Tryd.prog 21 #[.slice q n c0, .string p] W fun e w' => ∃ v', e = .returned (.tuple #[v', .iface 71 (.int .i64 k)]) ∧ BookAt w' v' ([]) ∧ Below W.heap.size W w') := by
    intro W hb
    have h9 := strike_any _ l p W (HBK.out.below hb) hs hp
    rw [hs1, hs2, hev] at h9
    exact h9
  clear h hs hp hg hne hlf hc1 hc2 hq0 hn hnm hw hw1 hw2 hs1 hs2 ht hae har hof hk hev HBK HG
  go_enter Tryd.func3, Tryd.ntmps3
  go_wp2_with fail
  refine (CB.out w0 HB0.out).mono ?_
  rintro e w1 ⟨rfl, hb⟩
  have HB1 : Hid (Below w0.heap.size w0 w1) := bel HB0.out hb
  clear hb
  go_wp2_with fail
  refine (CC.out w1 HB1.out).mono ?_
  rintro e w2 ⟨rfl, hb⟩
  have HB2 : Hid (Below w0.heap.size w0 w2) := bel HB1.out hb
  clear hb
  go_wp2_with fail
  refine (CE.out w2 HB2.out).mono ?_
  rintro e w3 ⟨rfl, hb⟩
  have HB3 : Hid (Below w0.heap.size w0 w3) := bel HB2.out hb
  clear hb
  go_wp2_with fail
  refine (CT.out w3 HB3.out).mono ?_
  rintro e w4 ⟨rfl, hb⟩
  have HB4 : Hid (Below w0.heap.size w0 w4) := bel HB3.out hb
  clear hb
  go_wp2_with fail
  refine (CE.out w4 HB4.out).mono ?_
  rintro e w5 ⟨rfl, hb⟩
  have HB5 : Hid (Below w0.heap.size w0 w5) := bel HB4.out hb
  clear hb
  go_wp2_with fail
  refine (CA.out w5 HB5.out).mono ?_
  rintro e w6 ⟨rfl, hb⟩
  have HB6 : Hid (Below w0.heap.size w0 w6) := bel HB5.out hb
  clear hb
  go_wp2_with fail
  refine (CE.out w6 HB6.out).mono ?_
  rintro e w7 ⟨rfl, hb⟩
  have HB7 : Hid (Below w0.heap.size w0 w7) := bel HB6.out hb
  clear hb
  go_wp2_with fail
  refine (CO.out w7 HB7.out).mono ?_
  rintro e w8 ⟨rfl, hb⟩
  have HB8 : Hid (Below w0.heap.size w0 w8) := bel HB7.out hb
  clear hb
  go_wp2_with fail
  refine (CE.out w8 HB8.out).mono ?_
  rintro e w9 ⟨rfl, hb⟩
  have HB9 : Hid (Below w0.heap.size w0 w9) := bel HB8.out hb
  clear hb
  go_wp2_with fail
  refine (CW.out w9 HB9.out).mono ?_
  rintro e w10 ⟨y, rfl, hk, hb⟩
  have HB10 : Hid (Below w0.heap.size w0 w10) := bel HB9.out hb
  have HKy10 : Hid (BookAt w10 y ([])) := hk
  clear hk
  clear hb
  go_wp2_with fail
  refine (CE.out w10 HB10.out).mono ?_
  rintro e w11 ⟨rfl, hb⟩
  have HB11 : Hid (Below w0.heap.size w0 w11) := bel HB10.out hb
  have HKy11 : Hid (BookAt w11 y ([])) := HKy10.out.below hb
  clear HKy10
  clear hb
  go_wp2_with fail
  refine (leafs_same y (.slice none 0 0) [] [] w11 HKy11.out (BookAt.nil _) rfl (by simp)).mono ?_
  rintro e w12 ⟨rfl, hb⟩
  have HB12 : Hid (Below w0.heap.size w0 w12) := bel HB11.out hb
  have HKy12 : Hid (BookAt w12 y ([])) := HKy11.out.below hb
  clear HKy11
  clear hb
  clear HKy12
  go_wp2_with fail
  refine (CS.out w12 HB12.out).mono ?_
  rintro e w13 ⟨z, rfl, hk, hb⟩
  have HB13 : Hid (Below w0.heap.size w0 w13) := bel HB12.out hb
  have HKz13 : Hid (BookAt w13 z ([])) := hk
  clear hk
  clear hb
  go_wp2_with fail
  refine (CE.out w13 HB13.out).mono ?_
  rintro e w14 ⟨rfl, hb⟩
  have HB14 : Hid (Below w0.heap.size w0 w14) := bel HB13.out hb
  have HKz14 : Hid (BookAt w14 z ([])) := HKz13.out.below hb
  clear HKz13
  clear hb
  go_wp2_with fail
  refine (leafs_same z (.slice none 0 0) [] [] w14 HKz14.out (BookAt.nil _) rfl (by simp)).mono ?_
  rintro e w15 ⟨rfl, hb⟩
  have HB15 : Hid (Below w0.heap.size w0 w15) := bel HB14.out hb
  have HKz15 : Hid (BookAt w15 z ([])) := HKz14.out.below hb
  clear HKz14
  clear hb
  clear HKz15
  go_wp2_with fail
  go_ret
  exact ⟨by first | rfl | (refine ret_bool ?_; simp), HB15.out⟩

set_option maxRecDepth 100000 in
set_option maxHeartbeats 8000000 in
theorem way10 (v : Value) (l : List Leaf) (p : ByteArray) (f c : Int) (w0 : World) (h : BookAt w0 v l) (hs : ∀ x ∈ l, x.1.size ≤ maxLen) (hp : p.size ≤ maxLen) (hg : ET w0) (h0 : bookE l = 0) (hf : f < 0) (hc : Pm.chk p.toList ≠ 0) :
    Calls Tryd.prog 3 #[v, .string p, .int .i64 f, .int .i64 c] w0 fun e w' => e = .returned (.bool true) ∧ Below w0.heap.size w0 w' := by
  obtain ⟨q, c0, hv, hlf, hc1, hc2, hq0⟩ := id h
  have HBK : Hid (BookAt w0 v l) := h
  have HB0 : Hid (Below w0.heap.size w0 w0) := Below.refl _ _
  have HG : Hid (ET w0) := hg
  have hok := book_ok h0
  obtain ⟨n, hn⟩ : ∃ n, l.length = n := ⟨_, rfl⟩
  have hn300 : n ≤ 300 := by rw [← hn]; exact hok.1
  have hnm : n ≤ maxLen := by unfold maxLen; omega
  have ht : textR l = ⟨(text l).toArray⟩ := by unfold textR; rw [if_pos h0]
  obtain ⟨T, hT⟩ : ∃ T : ByteArray, T = ⟨(text l).toArray⟩ := ⟨_, rfl⟩
  have hae : atE l f = 1 := by unfold atE; rw [if_neg (by simpa using h0), if_pos hf]
  have har : atR l f = 0 := by unfold atR; rw [hae, if_neg (by decide)]
  have CB : Hid (∀ W, Below w0.heap.size w0 W → Calls Tryd.prog 6 #[.slice q n c0] W fun e w' => e = .returned (.int .i64 0) ∧ Below W.heap.size W w') := by
    intro W hb
    have h9 := book_ref q n c0 l W hn (hlf.below hb) hs hnm
    rw [h0] at h9
    exact h9
  have CC : Hid (∀ W, Below w0.heap.size w0 W → Calls Tryd.prog 8 #[.slice q n c0] W fun e w' => e = .returned (.nilIface) ∧ Below W.heap.size W w') := by
    intro W hb
    have h9 := check_book q n c0 l W hn (hlf.below hb) hs hnm
    rw [h0, errV_zero] at h9
    exact h9
  have CN : Hid (∀ W, Below w0.heap.size w0 W → Calls Tryd.prog 7 #[.nilIface, .int .i64 0] W fun e w' => e = .returned (.bool true) ∧ Below W.heap.size W w') := by
    intro W hb
    have h9 := err_same 0 w0 W HG.out hb
    rw [errV_zero] at h9
    exact h9
  have CRT : Hid (∀ W, Below w0.heap.size w0 W → Calls Tryd.prog 9 #[.slice q n c0] W fun e w' => e = .returned (.string T) ∧ Below W.heap.size W w') := by
    intro W hb
    have h9 := text_ref q n c0 l W hn (hlf.below hb) hok.2.2 (by omega)
    rw [← hT] at h9
    exact h9
  have CT : Hid (∀ W, Below w0.heap.size w0 W → Calls Tryd.prog 11 #[.slice q n c0] W fun e w' => e = .returned (.tuple #[.string T, .nilIface]) ∧ Below W.heap.size W w') := by
    intro W hb
    have h9 := text_any q n c0 l W hn (hlf.below hb) hs hnm
    rw [ht, ← hT, h0, errV_zero] at h9
    exact h9
  have CA : Hid (∀ W, Below w0.heap.size w0 W → Calls Tryd.prog 12 #[.slice q n c0, .int .i64 f] W fun e w' => e = .returned (.tuple #[.int .i64 0, .iface 71 (.int .i64 1)]) ∧ Below W.heap.size W w') := by
    intro W hb
    have h9 := at_any q n c0 l f W hn (hlf.below hb) hs hnm
    rw [har, hae, errV_ne (by decide)] at h9
    exact h9
  have CE1 : Hid (∀ W, Below w0.heap.size w0 W → Calls Tryd.prog 7 #[.iface 71 (.int .i64 1), .int .i64 1] W fun e w' => e = .returned (.bool true) ∧ Below W.heap.size W w') := by
    intro W hb
    have h9 := err_same 1 w0 W HG.out hb
    rw [errV_ne (by decide)] at h9
    exact h9
  have hw : withE l p = Pm.chk p.toList := by unfold withE; rw [if_neg (by simpa using h0)]
  have hw1 : writeE l p c = Pm.chk p.toList := by unfold writeE; rw [hw, if_pos hc]
  have hw2 : writeL l p c = [] := by unfold writeL; rw [hw1, if_neg hc]
  have hs1 : strikeE l p = Pm.chk p.toList := by unfold strikeE; rw [hw, if_pos hc]
  have hs2 : strikeL l p = [] := by unfold strikeL; rw [hs1, if_neg hc]
  have hof : offR l p = 0 := by unfold offR; rw [hw, if_neg hc]
  obtain ⟨k, hk⟩ : ∃ k, k = Pm.chk p.toList := ⟨_, rfl⟩
  have hkb : (k == 0) = false := by rw [hk]; simpa using hc
  have hev : errV (Pm.chk p.toList) = .iface 71 (.int .i64 k) := by rw [errV_ne hc, hk]
  have CP : Hid (∀ W, Below w0.heap.size w0 W → Calls Tryd.prog 13 #[.string p] W fun e w' => e = .returned (.int .i64 k) ∧ Below W.heap.size W w') := by
    intro W hb
    have h9 := place_ref p W hp
    rw [← hk] at h9
    refine h9.mono ?_
    rintro e w' ⟨rfl, rfl⟩
    exact ⟨rfl, Below.refl _ _⟩
  have CE : Hid (∀ W, Below w0.heap.size w0 W → Calls Tryd.prog 7 #[.iface 71 (.int .i64 k), .int .i64 k] W fun e w' => e = .returned (.bool true) ∧ Below W.heap.size W w') := by
    intro W hb
    have h9 := err_same k w0 W HG.out hb
    rw [errV_ne (by rw [hk]; exact hc)] at h9
    exact h9
  have CO : Hid (∀ W, Below w0.heap.size w0 W → Calls Tryd.prog 16 #[.slice q n c0, .string p] W fun e w' => e = .returned (.tuple #[.int .i64 0, .iface 71 (.int .i64 k)]) ∧ Below W.heap.size W w') := by
    intro W hb
    have h9 := offset_any q n c0 l p W hn (hlf.below hb) hs (by rw [← hn]; exact hc1) hc2 hp
    rw [hof, hw, hev] at h9
    exact h9
  rw [hn] at hv
  subst hv
  have CW : Hid (∀ W, Below w0.heap.size w0 W → Calls Tryd.prog 18 #[.slice q n c0, .string p, .int .i64 c] W fun e w' => ∃ v', e = .returned (.tuple #[v', .iface 71 (.int .i64 k)]) ∧ BookAt w' v' ([]) ∧ Below W.heap.size W w') := by
    intro W hb
    have h9 := write_any _ l p c W (HBK.out.below hb) hs hp
    rw [hw1, hw2, hev] at h9
    exact h9
  have CS : Hid (∀ W, Below w0.heap.size w0 W → Calls Tryd.prog 21 #[.slice q n c0, .string p] W fun e w' => ∃ v', e = .returned (.tuple #[v', .iface 71 (.int .i64 k)]) ∧ BookAt w' v' ([]) ∧ Below W.heap.size W w') := by
    intro W hb
    have h9 := strike_any _ l p W (HBK.out.below hb) hs hp
    rw [hs1, hs2, hev] at h9
    exact h9
  clear h hs hp hg h0 hc hlf hc1 hc2 hq0 hn hnm hok hw hw1 hw2 hs1 hs2 hof hk hev HBK HG ht hT hae har
  go_enter Tryd.func3, Tryd.ntmps3
  go_wp2_with fail
  refine (CB.out w0 HB0.out).mono ?_
  rintro e w1 ⟨rfl, hb⟩
  have HB1 : Hid (Below w0.heap.size w0 w1) := bel HB0.out hb
  clear hb
  go_wp2_with fail
  refine (CC.out w1 HB1.out).mono ?_
  rintro e w2 ⟨rfl, hb⟩
  have HB2 : Hid (Below w0.heap.size w0 w2) := bel HB1.out hb
  clear hb
  go_wp2_with fail
  refine (CN.out w2 HB2.out).mono ?_
  rintro e w3 ⟨rfl, hb⟩
  have HB3 : Hid (Below w0.heap.size w0 w3) := bel HB2.out hb
  clear hb
  go_wp2_with fail
  refine (CRT.out w3 HB3.out).mono ?_
  rintro e w4 ⟨rfl, hb⟩
  have HB4 : Hid (Below w0.heap.size w0 w4) := bel HB3.out hb
  clear hb
  go_wp2_with fail
  refine (CT.out w4 HB4.out).mono ?_
  rintro e w5 ⟨rfl, hb⟩
  have HB5 : Hid (Below w0.heap.size w0 w5) := bel HB4.out hb
  clear hb
  go_wp2_with fail
  refine (CN.out w5 HB5.out).mono ?_
  rintro e w6 ⟨rfl, hb⟩
  have HB6 : Hid (Below w0.heap.size w0 w6) := bel HB5.out hb
  clear hb
  go_wp2_with fail
  refine (CA.out w6 HB6.out).mono ?_
  rintro e w7 ⟨rfl, hb⟩
  have HB7 : Hid (Below w0.heap.size w0 w7) := bel HB6.out hb
  clear hb
  go_wp2_with fail
  refine (CE1.out w7 HB7.out).mono ?_
  rintro e w8 ⟨rfl, hb⟩
  have HB8 : Hid (Below w0.heap.size w0 w8) := bel HB7.out hb
  clear hb
  go_wp2_with fail
  refine (CP.out w8 HB8.out).mono ?_
  rintro e w9 ⟨rfl, hb⟩
  have HB9 : Hid (Below w0.heap.size w0 w9) := bel HB8.out hb
  clear hb
  go_wp2_with fail
  refine (CO.out w9 HB9.out).mono ?_
  rintro e w10 ⟨rfl, hb⟩
  have HB10 : Hid (Below w0.heap.size w0 w10) := bel HB9.out hb
  clear hb
  go_wp2_with fail
  refine (CE.out w10 HB10.out).mono ?_
  rintro e w11 ⟨rfl, hb⟩
  have HB11 : Hid (Below w0.heap.size w0 w11) := bel HB10.out hb
  clear hb
  go_wp2_with fail
  refine (CW.out w11 HB11.out).mono ?_
  rintro e w12 ⟨y, rfl, hk, hb⟩
  have HB12 : Hid (Below w0.heap.size w0 w12) := bel HB11.out hb
  have HKy12 : Hid (BookAt w12 y ([])) := hk
  clear hk
  clear hb
  go_wp2_with fail
  refine (CE.out w12 HB12.out).mono ?_
  rintro e w13 ⟨rfl, hb⟩
  have HB13 : Hid (Below w0.heap.size w0 w13) := bel HB12.out hb
  have HKy13 : Hid (BookAt w13 y ([])) := HKy12.out.below hb
  clear HKy12
  clear hb
  go_wp2_with fail
  refine (leafs_same y (.slice none 0 0) [] [] w13 HKy13.out (BookAt.nil _) rfl (by simp)).mono ?_
  rintro e w14 ⟨rfl, hb⟩
  have HB14 : Hid (Below w0.heap.size w0 w14) := bel HB13.out hb
  have HKy14 : Hid (BookAt w14 y ([])) := HKy13.out.below hb
  clear HKy13
  clear hb
  clear HKy14
  go_wp2_with fail
  refine (CS.out w14 HB14.out).mono ?_
  rintro e w15 ⟨z, rfl, hk, hb⟩
  have HB15 : Hid (Below w0.heap.size w0 w15) := bel HB14.out hb
  have HKz15 : Hid (BookAt w15 z ([])) := hk
  clear hk
  clear hb
  go_wp2_with fail
  refine (CE.out w15 HB15.out).mono ?_
  rintro e w16 ⟨rfl, hb⟩
  have HB16 : Hid (Below w0.heap.size w0 w16) := bel HB15.out hb
  have HKz16 : Hid (BookAt w16 z ([])) := HKz15.out.below hb
  clear HKz15
  clear hb
  go_wp2_with fail
  refine (leafs_same z (.slice none 0 0) [] [] w16 HKz16.out (BookAt.nil _) rfl (by simp)).mono ?_
  rintro e w17 ⟨rfl, hb⟩
  have HB17 : Hid (Below w0.heap.size w0 w17) := bel HB16.out hb
  have HKz17 : Hid (BookAt w17 z ([])) := HKz16.out.below hb
  clear HKz16
  clear hb
  clear HKz17
  go_wp2_with fail
  go_ret
  exact ⟨by first | rfl | (refine ret_bool ?_; simp), HB17.out⟩

set_option maxRecDepth 100000 in
set_option maxHeartbeats 8000000 in
theorem way20 (v : Value) (l : List Leaf) (p : ByteArray) (f c : Int) (w0 : World) (h : BookAt w0 v l) (hs : ∀ x ∈ l, x.1.size ≤ maxLen) (hp : p.size ≤ maxLen) (hg : ET w0) (h0 : bookE l = 0) (hf : 0 ≤ f) (hr : nth l 0 f < 0) (hc : Pm.chk p.toList ≠ 0) :
    Calls Tryd.prog 3 #[v, .string p, .int .i64 f, .int .i64 c] w0 fun e w' => e = .returned (.bool true) ∧ Below w0.heap.size w0 w' := by
  obtain ⟨q, c0, hv, hlf, hc1, hc2, hq0⟩ := id h
  have HBK : Hid (BookAt w0 v l) := h
  have HB0 : Hid (Below w0.heap.size w0 w0) := Below.refl _ _
  have HG : Hid (ET w0) := hg
  have hok := book_ok h0
  obtain ⟨n, hn⟩ : ∃ n, l.length = n := ⟨_, rfl⟩
  have hn300 : n ≤ 300 := by rw [← hn]; exact hok.1
  have hnm : n ≤ maxLen := by unfold maxLen; omega
  have ht : textR l = ⟨(text l).toArray⟩ := by unfold textR; rw [if_pos h0]
  obtain ⟨T, hT⟩ : ∃ T : ByteArray, T = ⟨(text l).toArray⟩ := ⟨_, rfl⟩
  have hae : atE l f = 1 := by unfold atE; rw [if_neg (by simpa using h0), if_neg (by omega), if_pos hr]
  have har : atR l f = 0 := by unfold atR; rw [hae, if_neg (by decide)]
  obtain ⟨r, hrr⟩ : ∃ r, r = nth l 0 f := ⟨_, rfl⟩
  rw [← hrr] at hr
  have CB : Hid (∀ W, Below w0.heap.size w0 W → Calls Tryd.prog 6 #[.slice q n c0] W fun e w' => e = .returned (.int .i64 0) ∧ Below W.heap.size W w') := by
    intro W hb
    have h9 := book_ref q n c0 l W hn (hlf.below hb) hs hnm
    rw [h0] at h9
    exact h9
  have CC : Hid (∀ W, Below w0.heap.size w0 W → Calls Tryd.prog 8 #[.slice q n c0] W fun e w' => e = .returned (.nilIface) ∧ Below W.heap.size W w') := by
    intro W hb
    have h9 := check_book q n c0 l W hn (hlf.below hb) hs hnm
    rw [h0, errV_zero] at h9
    exact h9
  have CN : Hid (∀ W, Below w0.heap.size w0 W → Calls Tryd.prog 7 #[.nilIface, .int .i64 0] W fun e w' => e = .returned (.bool true) ∧ Below W.heap.size W w') := by
    intro W hb
    have h9 := err_same 0 w0 W HG.out hb
    rw [errV_zero] at h9
    exact h9
  have CRT : Hid (∀ W, Below w0.heap.size w0 W → Calls Tryd.prog 9 #[.slice q n c0] W fun e w' => e = .returned (.string T) ∧ Below W.heap.size W w') := by
    intro W hb
    have h9 := text_ref q n c0 l W hn (hlf.below hb) hok.2.2 (by omega)
    rw [← hT] at h9
    exact h9
  have CRN : Hid (∀ W, Below w0.heap.size w0 W → Calls Tryd.prog 10 #[.slice q n c0, .int .i64 f] W fun e w' => e = .returned (.int .i64 r) ∧ Below W.heap.size W w') := by
    intro W hb
    have h9 := nth_ref q n c0 l f W hn (hlf.below hb) (by omega) hf
    rw [← hrr] at h9
    exact h9
  have CT : Hid (∀ W, Below w0.heap.size w0 W → Calls Tryd.prog 11 #[.slice q n c0] W fun e w' => e = .returned (.tuple #[.string T, .nilIface]) ∧ Below W.heap.size W w') := by
    intro W hb
    have h9 := text_any q n c0 l W hn (hlf.below hb) hs hnm
    rw [ht, ← hT, h0, errV_zero] at h9
    exact h9
  have CA : Hid (∀ W, Below w0.heap.size w0 W → Calls Tryd.prog 12 #[.slice q n c0, .int .i64 f] W fun e w' => e = .returned (.tuple #[.int .i64 0, .iface 71 (.int .i64 1)]) ∧ Below W.heap.size W w') := by
    intro W hb
    have h9 := at_any q n c0 l f W hn (hlf.below hb) hs hnm
    rw [har, hae, errV_ne (by decide)] at h9
    exact h9
  have CE1 : Hid (∀ W, Below w0.heap.size w0 W → Calls Tryd.prog 7 #[.iface 71 (.int .i64 1), .int .i64 1] W fun e w' => e = .returned (.bool true) ∧ Below W.heap.size W w') := by
    intro W hb
    have h9 := err_same 1 w0 W HG.out hb
    rw [errV_ne (by decide)] at h9
    exact h9
  have hw : withE l p = Pm.chk p.toList := by unfold withE; rw [if_neg (by simpa using h0)]
  have hw1 : writeE l p c = Pm.chk p.toList := by unfold writeE; rw [hw, if_pos hc]
  have hw2 : writeL l p c = [] := by unfold writeL; rw [hw1, if_neg hc]
  have hs1 : strikeE l p = Pm.chk p.toList := by unfold strikeE; rw [hw, if_pos hc]
  have hs2 : strikeL l p = [] := by unfold strikeL; rw [hs1, if_neg hc]
  have hof : offR l p = 0 := by unfold offR; rw [hw, if_neg hc]
  obtain ⟨k, hk⟩ : ∃ k, k = Pm.chk p.toList := ⟨_, rfl⟩
  have hkb : (k == 0) = false := by rw [hk]; simpa using hc
  have hev : errV (Pm.chk p.toList) = .iface 71 (.int .i64 k) := by rw [errV_ne hc, hk]
  have CP : Hid (∀ W, Below w0.heap.size w0 W → Calls Tryd.prog 13 #[.string p] W fun e w' => e = .returned (.int .i64 k) ∧ Below W.heap.size W w') := by
    intro W hb
    have h9 := place_ref p W hp
    rw [← hk] at h9
    refine h9.mono ?_
    rintro e w' ⟨rfl, rfl⟩
    exact ⟨rfl, Below.refl _ _⟩
  have CE : Hid (∀ W, Below w0.heap.size w0 W → Calls Tryd.prog 7 #[.iface 71 (.int .i64 k), .int .i64 k] W fun e w' => e = .returned (.bool true) ∧ Below W.heap.size W w') := by
    intro W hb
    have h9 := err_same k w0 W HG.out hb
    rw [errV_ne (by rw [hk]; exact hc)] at h9
    exact h9
  have CO : Hid (∀ W, Below w0.heap.size w0 W → Calls Tryd.prog 16 #[.slice q n c0, .string p] W fun e w' => e = .returned (.tuple #[.int .i64 0, .iface 71 (.int .i64 k)]) ∧ Below W.heap.size W w') := by
    intro W hb
    have h9 := offset_any q n c0 l p W hn (hlf.below hb) hs (by rw [← hn]; exact hc1) hc2 hp
    rw [hof, hw, hev] at h9
    exact h9
  rw [hn] at hv
  subst hv
  have CW : Hid (∀ W, Below w0.heap.size w0 W → Calls Tryd.prog 18 #[.slice q n c0, .string p, .int .i64 c] W fun e w' => ∃ v', e = .returned (.tuple #[v', .iface 71 (.int .i64 k)]) ∧ BookAt w' v' ([]) ∧ Below W.heap.size W w') := by
    intro W hb
    have h9 := write_any _ l p c W (HBK.out.below hb) hs hp
    rw [hw1, hw2, hev] at h9
    exact h9
  have CS : Hid (∀ W, Below w0.heap.size w0 W → Calls Tryd.prog 21 #[.slice q n c0, .string p] W fun e w' => ∃ v', e = .returned (.tuple #[v', .iface 71 (.int .i64 k)]) ∧ BookAt w' v' ([]) ∧ Below W.heap.size W w') := by
    intro W hb
    have h9 := strike_any _ l p W (HBK.out.below hb) hs hp
    rw [hs1, hs2, hev] at h9
    exact h9
  clear h hs hp hg h0 hc hlf hc1 hc2 hq0 hn hnm hok hw hw1 hw2 hs1 hs2 hof hk hev HBK HG ht hT hae har hrr
  go_enter Tryd.func3, Tryd.ntmps3
  go_wp2_with fail
  refine (CB.out w0 HB0.out).mono ?_
  rintro e w1 ⟨rfl, hb⟩
  have HB1 : Hid (Below w0.heap.size w0 w1) := bel HB0.out hb
  clear hb
  go_wp2_with fail
  refine (CC.out w1 HB1.out).mono ?_
  rintro e w2 ⟨rfl, hb⟩
  have HB2 : Hid (Below w0.heap.size w0 w2) := bel HB1.out hb
  clear hb
  go_wp2_with fail
  refine (CN.out w2 HB2.out).mono ?_
  rintro e w3 ⟨rfl, hb⟩
  have HB3 : Hid (Below w0.heap.size w0 w3) := bel HB2.out hb
  clear hb
  go_wp2_with fail
  refine (CRT.out w3 HB3.out).mono ?_
  rintro e w4 ⟨rfl, hb⟩
  have HB4 : Hid (Below w0.heap.size w0 w4) := bel HB3.out hb
  clear hb
  go_wp2_with fail
  refine (CRN.out w4 HB4.out).mono ?_
  rintro e w5 ⟨rfl, hb⟩
  have HB5 : Hid (Below w0.heap.size w0 w5) := bel HB4.out hb
  clear hb
  go_wp2_with fail
  refine (CT.out w5 HB5.out).mono ?_
  rintro e w6 ⟨rfl, hb⟩
  have HB6 : Hid (Below w0.heap.size w0 w6) := bel HB5.out hb
  clear hb
  go_wp2_with fail
  refine (CN.out w6 HB6.out).mono ?_
  rintro e w7 ⟨rfl, hb⟩
  have HB7 : Hid (Below w0.heap.size w0 w7) := bel HB6.out hb
  clear hb
  go_wp2_with fail
  refine (CA.out w7 HB7.out).mono ?_
  rintro e w8 ⟨rfl, hb⟩
  have HB8 : Hid (Below w0.heap.size w0 w8) := bel HB7.out hb
  clear hb
  go_wp2_with fail
  refine (CE1.out w8 HB8.out).mono ?_
  rintro e w9 ⟨rfl, hb⟩
  have HB9 : Hid (Below w0.heap.size w0 w9) := bel HB8.out hb
  clear hb
  go_wp2_with fail
  refine (CP.out w9 HB9.out).mono ?_
  rintro e w10 ⟨rfl, hb⟩
  have HB10 : Hid (Below w0.heap.size w0 w10) := bel HB9.out hb
  clear hb
  go_wp2_with fail
  refine (CO.out w10 HB10.out).mono ?_
  rintro e w11 ⟨rfl, hb⟩
  have HB11 : Hid (Below w0.heap.size w0 w11) := bel HB10.out hb
  clear hb
  go_wp2_with fail
  refine (CE.out w11 HB11.out).mono ?_
  rintro e w12 ⟨rfl, hb⟩
  have HB12 : Hid (Below w0.heap.size w0 w12) := bel HB11.out hb
  clear hb
  go_wp2_with fail
  refine (CW.out w12 HB12.out).mono ?_
  rintro e w13 ⟨y, rfl, hk, hb⟩
  have HB13 : Hid (Below w0.heap.size w0 w13) := bel HB12.out hb
  have HKy13 : Hid (BookAt w13 y ([])) := hk
  clear hk
  clear hb
  go_wp2_with fail
  refine (CE.out w13 HB13.out).mono ?_
  rintro e w14 ⟨rfl, hb⟩
  have HB14 : Hid (Below w0.heap.size w0 w14) := bel HB13.out hb
  have HKy14 : Hid (BookAt w14 y ([])) := HKy13.out.below hb
  clear HKy13
  clear hb
  go_wp2_with fail
  refine (leafs_same y (.slice none 0 0) [] [] w14 HKy14.out (BookAt.nil _) rfl (by simp)).mono ?_
  rintro e w15 ⟨rfl, hb⟩
  have HB15 : Hid (Below w0.heap.size w0 w15) := bel HB14.out hb
  have HKy15 : Hid (BookAt w15 y ([])) := HKy14.out.below hb
  clear HKy14
  clear hb
  clear HKy15
  go_wp2_with fail
  refine (CS.out w15 HB15.out).mono ?_
  rintro e w16 ⟨z, rfl, hk, hb⟩
  have HB16 : Hid (Below w0.heap.size w0 w16) := bel HB15.out hb
  have HKz16 : Hid (BookAt w16 z ([])) := hk
  clear hk
  clear hb
  go_wp2_with fail
  refine (CE.out w16 HB16.out).mono ?_
  rintro e w17 ⟨rfl, hb⟩
  have HB17 : Hid (Below w0.heap.size w0 w17) := bel HB16.out hb
  have HKz17 : Hid (BookAt w17 z ([])) := HKz16.out.below hb
  clear HKz16
  clear hb
  go_wp2_with fail
  refine (leafs_same z (.slice none 0 0) [] [] w17 HKz17.out (BookAt.nil _) rfl (by simp)).mono ?_
  rintro e w18 ⟨rfl, hb⟩
  have HB18 : Hid (Below w0.heap.size w0 w18) := bel HB17.out hb
  have HKz18 : Hid (BookAt w18 z ([])) := HKz17.out.below hb
  clear HKz17
  clear hb
  clear HKz18
  go_wp2_with fail
  go_ret
  exact ⟨by first | rfl | (refine ret_bool ?_; simp), HB18.out⟩

set_option maxRecDepth 100000 in
set_option maxHeartbeats 8000000 in
theorem way30 (v : Value) (l : List Leaf) (p : ByteArray) (f c : Int) (w0 : World) (h : BookAt w0 v l) (hs : ∀ x ∈ l, x.1.size ≤ maxLen) (hp : p.size ≤ maxLen) (hg : ET w0) (h0 : bookE l = 0) (hf : 0 ≤ f) (hr : 0 ≤ nth l 0 f) (hc : Pm.chk p.toList ≠ 0) :
    Calls Tryd.prog 3 #[v, .string p, .int .i64 f, .int .i64 c] w0 fun e w' => e = .returned (.bool true) ∧ Below w0.heap.size w0 w' := by
  obtain ⟨q, c0, hv, hlf, hc1, hc2, hq0⟩ := id h
  have HBK : Hid (BookAt w0 v l) := h
  have HB0 : Hid (Below w0.heap.size w0 w0) := Below.refl _ _
  have HG : Hid (ET w0) := hg
  have hok := book_ok h0
  obtain ⟨n, hn⟩ : ∃ n, l.length = n := ⟨_, rfl⟩
  have hn300 : n ≤ 300 := by rw [← hn]; exact hok.1
  have hnm : n ≤ maxLen := by unfold maxLen; omega
  have ht : textR l = ⟨(text l).toArray⟩ := by unfold textR; rw [if_pos h0]
  obtain ⟨T, hT⟩ : ∃ T : ByteArray, T = ⟨(text l).toArray⟩ := ⟨_, rfl⟩
  have hae : atE l f = 0 := by unfold atE; rw [if_neg (by simpa using h0), if_neg (by omega), if_neg (by omega)]
  have har : atR l f = nth l 0 f := by unfold atR; rw [hae, if_pos rfl]
  obtain ⟨r, hrr⟩ : ∃ r, r = nth l 0 f := ⟨_, rfl⟩
  rw [← hrr] at hr
  rw [← hrr] at har
  have CB : Hid (∀ W, Below w0.heap.size w0 W → Calls Tryd.prog 6 #[.slice q n c0] W fun e w' => e = .returned (.int .i64 0) ∧ Below W.heap.size W w') := by
    intro W hb
    have h9 := book_ref q n c0 l W hn (hlf.below hb) hs hnm
    rw [h0] at h9
    exact h9
  have CC : Hid (∀ W, Below w0.heap.size w0 W → Calls Tryd.prog 8 #[.slice q n c0] W fun e w' => e = .returned (.nilIface) ∧ Below W.heap.size W w') := by
    intro W hb
    have h9 := check_book q n c0 l W hn (hlf.below hb) hs hnm
    rw [h0, errV_zero] at h9
    exact h9
  have CN : Hid (∀ W, Below w0.heap.size w0 W → Calls Tryd.prog 7 #[.nilIface, .int .i64 0] W fun e w' => e = .returned (.bool true) ∧ Below W.heap.size W w') := by
    intro W hb
    have h9 := err_same 0 w0 W HG.out hb
    rw [errV_zero] at h9
    exact h9
  have CRT : Hid (∀ W, Below w0.heap.size w0 W → Calls Tryd.prog 9 #[.slice q n c0] W fun e w' => e = .returned (.string T) ∧ Below W.heap.size W w') := by
    intro W hb
    have h9 := text_ref q n c0 l W hn (hlf.below hb) hok.2.2 (by omega)
    rw [← hT] at h9
    exact h9
  have CRN : Hid (∀ W, Below w0.heap.size w0 W → Calls Tryd.prog 10 #[.slice q n c0, .int .i64 f] W fun e w' => e = .returned (.int .i64 r) ∧ Below W.heap.size W w') := by
    intro W hb
    have h9 := nth_ref q n c0 l f W hn (hlf.below hb) (by omega) hf
    rw [← hrr] at h9
    exact h9
  have CT : Hid (∀ W, Below w0.heap.size w0 W → Calls Tryd.prog 11 #[.slice q n c0] W fun e w' => e = .returned (.tuple #[.string T, .nilIface]) ∧ Below W.heap.size W w') := by
    intro W hb
    have h9 := text_any q n c0 l W hn (hlf.below hb) hs hnm
    rw [ht, ← hT, h0, errV_zero] at h9
    exact h9
  have CA : Hid (∀ W, Below w0.heap.size w0 W → Calls Tryd.prog 12 #[.slice q n c0, .int .i64 f] W fun e w' => e = .returned (.tuple #[.int .i64 r, .nilIface]) ∧ Below W.heap.size W w') := by
    intro W hb
    have h9 := at_any q n c0 l f W hn (hlf.below hb) hs hnm
    rw [har, hae, errV_zero] at h9
    exact h9
  have hw : withE l p = Pm.chk p.toList := by unfold withE; rw [if_neg (by simpa using h0)]
  have hw1 : writeE l p c = Pm.chk p.toList := by unfold writeE; rw [hw, if_pos hc]
  have hw2 : writeL l p c = [] := by unfold writeL; rw [hw1, if_neg hc]
  have hs1 : strikeE l p = Pm.chk p.toList := by unfold strikeE; rw [hw, if_pos hc]
  have hs2 : strikeL l p = [] := by unfold strikeL; rw [hs1, if_neg hc]
  have hof : offR l p = 0 := by unfold offR; rw [hw, if_neg hc]
  obtain ⟨k, hk⟩ : ∃ k, k = Pm.chk p.toList := ⟨_, rfl⟩
  have hkb : (k == 0) = false := by rw [hk]; simpa using hc
  have hev : errV (Pm.chk p.toList) = .iface 71 (.int .i64 k) := by rw [errV_ne hc, hk]
  have CP : Hid (∀ W, Below w0.heap.size w0 W → Calls Tryd.prog 13 #[.string p] W fun e w' => e = .returned (.int .i64 k) ∧ Below W.heap.size W w') := by
    intro W hb
    have h9 := place_ref p W hp
    rw [← hk] at h9
    refine h9.mono ?_
    rintro e w' ⟨rfl, rfl⟩
    exact ⟨rfl, Below.refl _ _⟩
  have CE : Hid (∀ W, Below w0.heap.size w0 W → Calls Tryd.prog 7 #[.iface 71 (.int .i64 k), .int .i64 k] W fun e w' => e = .returned (.bool true) ∧ Below W.heap.size W w') := by
    intro W hb
    have h9 := err_same k w0 W HG.out hb
    rw [errV_ne (by rw [hk]; exact hc)] at h9
    exact h9
  have CO : Hid (∀ W, Below w0.heap.size w0 W → Calls Tryd.prog 16 #[.slice q n c0, .string p] W fun e w' => e = .returned (.tuple #[.int .i64 0, .iface 71 (.int .i64 k)]) ∧ Below W.heap.size W w') := by
    intro W hb
    have h9 := offset_any q n c0 l p W hn (hlf.below hb) hs (by rw [← hn]; exact hc1) hc2 hp
    rw [hof, hw, hev] at h9
    exact h9
  rw [hn] at hv
  subst hv
  have CW : Hid (∀ W, Below w0.heap.size w0 W → Calls Tryd.prog 18 #[.slice q n c0, .string p, .int .i64 c] W fun e w' => ∃ v', e = .returned (.tuple #[v', .iface 71 (.int .i64 k)]) ∧ BookAt w' v' ([]) ∧ Below W.heap.size W w') := by
    intro W hb
    have h9 := write_any _ l p c W (HBK.out.below hb) hs hp
    rw [hw1, hw2, hev] at h9
    exact h9
  have CS : Hid (∀ W, Below w0.heap.size w0 W → Calls Tryd.prog 21 #[.slice q n c0, .string p] W fun e w' => ∃ v', e = .returned (.tuple #[v', .iface 71 (.int .i64 k)]) ∧ BookAt w' v' ([]) ∧ Below W.heap.size W w') := by
    intro W hb
    have h9 := strike_any _ l p W (HBK.out.below hb) hs hp
    rw [hs1, hs2, hev] at h9
    exact h9
  clear h hs hp hg h0 hc hlf hc1 hc2 hq0 hn hnm hok hw hw1 hw2 hs1 hs2 hof hk hev HBK HG ht hT hae har hrr
  go_enter Tryd.func3, Tryd.ntmps3
  go_wp2_with fail
  refine (CB.out w0 HB0.out).mono ?_
  rintro e w1 ⟨rfl, hb⟩
  have HB1 : Hid (Below w0.heap.size w0 w1) := bel HB0.out hb
  clear hb
  go_wp2_with fail
  refine (CC.out w1 HB1.out).mono ?_
  rintro e w2 ⟨rfl, hb⟩
  have HB2 : Hid (Below w0.heap.size w0 w2) := bel HB1.out hb
  clear hb
  go_wp2_with fail
  refine (CN.out w2 HB2.out).mono ?_
  rintro e w3 ⟨rfl, hb⟩
  have HB3 : Hid (Below w0.heap.size w0 w3) := bel HB2.out hb
  clear hb
  go_wp2_with fail
  refine (CRT.out w3 HB3.out).mono ?_
  rintro e w4 ⟨rfl, hb⟩
  have HB4 : Hid (Below w0.heap.size w0 w4) := bel HB3.out hb
  clear hb
  go_wp2_with fail
  refine (CRN.out w4 HB4.out).mono ?_
  rintro e w5 ⟨rfl, hb⟩
  have HB5 : Hid (Below w0.heap.size w0 w5) := bel HB4.out hb
  clear hb
  go_wp2_with fail
  refine (CT.out w5 HB5.out).mono ?_
  rintro e w6 ⟨rfl, hb⟩
  have HB6 : Hid (Below w0.heap.size w0 w6) := bel HB5.out hb
  clear hb
  go_wp2_with fail
  refine (CN.out w6 HB6.out).mono ?_
  rintro e w7 ⟨rfl, hb⟩
  have HB7 : Hid (Below w0.heap.size w0 w7) := bel HB6.out hb
  clear hb
  go_wp2_with fail
  refine (CA.out w7 HB7.out).mono ?_
  rintro e w8 ⟨rfl, hb⟩
  have HB8 : Hid (Below w0.heap.size w0 w8) := bel HB7.out hb
  clear hb
  go_wp2_with fail
  refine (CN.out w8 HB8.out).mono ?_
  rintro e w9 ⟨rfl, hb⟩
  have HB9 : Hid (Below w0.heap.size w0 w9) := bel HB8.out hb
  clear hb
  go_wp2_with fail
  refine (CP.out w9 HB9.out).mono ?_
  rintro e w10 ⟨rfl, hb⟩
  have HB10 : Hid (Below w0.heap.size w0 w10) := bel HB9.out hb
  clear hb
  go_wp2_with fail
  refine (CO.out w10 HB10.out).mono ?_
  rintro e w11 ⟨rfl, hb⟩
  have HB11 : Hid (Below w0.heap.size w0 w11) := bel HB10.out hb
  clear hb
  go_wp2_with fail
  refine (CE.out w11 HB11.out).mono ?_
  rintro e w12 ⟨rfl, hb⟩
  have HB12 : Hid (Below w0.heap.size w0 w12) := bel HB11.out hb
  clear hb
  go_wp2_with fail
  refine (CW.out w12 HB12.out).mono ?_
  rintro e w13 ⟨y, rfl, hk, hb⟩
  have HB13 : Hid (Below w0.heap.size w0 w13) := bel HB12.out hb
  have HKy13 : Hid (BookAt w13 y ([])) := hk
  clear hk
  clear hb
  go_wp2_with fail
  refine (CE.out w13 HB13.out).mono ?_
  rintro e w14 ⟨rfl, hb⟩
  have HB14 : Hid (Below w0.heap.size w0 w14) := bel HB13.out hb
  have HKy14 : Hid (BookAt w14 y ([])) := HKy13.out.below hb
  clear HKy13
  clear hb
  go_wp2_with fail
  refine (leafs_same y (.slice none 0 0) [] [] w14 HKy14.out (BookAt.nil _) rfl (by simp)).mono ?_
  rintro e w15 ⟨rfl, hb⟩
  have HB15 : Hid (Below w0.heap.size w0 w15) := bel HB14.out hb
  have HKy15 : Hid (BookAt w15 y ([])) := HKy14.out.below hb
  clear HKy14
  clear hb
  clear HKy15
  go_wp2_with fail
  refine (CS.out w15 HB15.out).mono ?_
  rintro e w16 ⟨z, rfl, hk, hb⟩
  have HB16 : Hid (Below w0.heap.size w0 w16) := bel HB15.out hb
  have HKz16 : Hid (BookAt w16 z ([])) := hk
  clear hk
  clear hb
  go_wp2_with fail
  refine (CE.out w16 HB16.out).mono ?_
  rintro e w17 ⟨rfl, hb⟩
  have HB17 : Hid (Below w0.heap.size w0 w17) := bel HB16.out hb
  have HKz17 : Hid (BookAt w17 z ([])) := HKz16.out.below hb
  clear HKz16
  clear hb
  go_wp2_with fail
  refine (leafs_same z (.slice none 0 0) [] [] w17 HKz17.out (BookAt.nil _) rfl (by simp)).mono ?_
  rintro e w18 ⟨rfl, hb⟩
  have HB18 : Hid (Below w0.heap.size w0 w18) := bel HB17.out hb
  have HKz18 : Hid (BookAt w18 z ([])) := HKz17.out.below hb
  clear HKz17
  clear hb
  clear HKz18
  go_wp2_with fail
  go_ret
  exact ⟨by first | rfl | (refine ret_bool ?_; simp), HB18.out⟩

end Gb
end Go.Proofs.YtaefoieoachdfaaDoor
