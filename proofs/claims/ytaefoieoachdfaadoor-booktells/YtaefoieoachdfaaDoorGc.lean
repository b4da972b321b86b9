/- Ways of BookTells: by the offset, by the place. -/
import Derived.Test.YtaefoieoachdfaaDoorGa
namespace Go.Proofs.YtaefoieoachdfaaDoor
namespace Gc
set_option linter.unusedVariables false
open Go.ChangeShapes Go.WideShapes Go.ChangeAt Go.RowKit Bm Ka Kb La Lb Lc Ld Le Lf Lg Lh Li Lj Lk Lp Ma Mb Mc Md Me Kt Kl Ga

set_option maxRecDepth 100000 in
set_option maxHeartbeats 8000000 in
theorem way11 (v : Value) (l : List Leaf) (p : ByteArray) (f c : Int) (w0 : World) (h : BookAt w0 v l) (hs : ∀ x ∈ l, x.1.size ≤ maxLen) (hp : p.size ≤ maxLen) (hg : ET w0) (h0 : bookE l = 0) (hf : f < 0) (hc : Pm.chk p.toList = 0) (hin : ahd l p.toList < l.length) (hh : has l p.toList = true) :
    Calls Tryd.prog 3 #[v, .string p, .int .i64 f, .int .i64 c] w0 fun e w' => e = .returned (.bool true) ∧ Below w0.heap.size w0 w' := by
  obtain ⟨q, c0, hv, hlf, hc1, hc2, hq0⟩ := id h
  have HBK : Hid (BookAt w0 v l) := h
  have HB0 : Hid (Below w0.heap.size w0 w0) := Below.refl _ _
  have HG : Hid (ET w0) := hg
  have hok := book_ok h0
  obtain ⟨n, hn⟩ : ∃ n, l.length = n := ⟨_, rfl⟩
  have hn300 : n ≤ 300 := by rw [← hn]; exact hok.1
  have hnm : n ≤ maxLen := by unfold maxLen; omega
  have ht : textR l = ⟨(text l).toArray⟩ := by unfold textR; rw [if_pos h0]
  obtain ⟨T, hT⟩ : ∃ T : ByteArray, T = ⟨(text l).toArray⟩ := ⟨_, rfl⟩
  have hae : atE l f = 1 := by unfold atE; rw [if_neg (by simpa using h0), if_pos hf]
  have har : atR l f = 0 := by unfold atR; rw [hae, if_neg (by decide)]
  have CB : Hid (∀ W, Below w0.heap.size w0 W → Calls Tryd.prog 6 #[.slice q n c0] W fun e w' => e = .returned (.int .i64 0) ∧ Below W.heap.size W w') := by
    intro W hb
    have h9 := book_ref q n c0 l W hn (hlf.below hb) hs hnm
    rw [h0] at h9
    exact h9
  have CC : Hid (∀ W, Below w0.heap.size w0 W → Calls Tryd.prog 8 #[.slice q n c0] W fun e w' => e = .returned (.nilIface) ∧ Below W.heap.size W w') := by
    intro W hb
    have h9 := check_book q n c0 l W hn (hlf.below hb) hs hnm
    rw [h0, errV_zero] at h9
    exact h9
  have CN : Hid (∀ W, Below w0.heap.size w0 W → Calls Tryd.prog 7 #[.nilIface, .int .i64 0] W fun e w' => e = .returned (.bool true) ∧ Below W.heap.size W w') := by
    intro W hb
    have h9 := err_same 0 w0 W HG.out hb
    rw [errV_zero] at h9
    exact h9
  have CRT : Hid (∀ W, Below w0.heap.size w0 W → Calls Tryd.prog 9 #[.slice q n c0] W fun e w' => e = .returned (.string T) ∧ Below W.heap.size W w') := by
    intro W hb
    have h9 := text_ref q n c0 l W hn (hlf.below hb) hok.2.2 (by omega)
    rw [← hT] at h9
    exact h9
  have CT : Hid (∀ W, Below w0.heap.size w0 W → Calls Tryd.prog 11 #[.slice q n c0] W fun e w' => e = .returned (.tuple #[.string T, .nilIface]) ∧ Below W.heap.size W w') := by
    intro W hb
    have h9 := text_any q n c0 l W hn (hlf.below hb) hs hnm
    rw [ht, ← hT, h0, errV_zero] at h9
    exact h9
  have CA : Hid (∀ W, Below w0.heap.size w0 W → Calls Tryd.prog 12 #[.slice q n c0, .int .i64 f] W fun e w' => e = .returned (.tuple #[.int .i64 0, .iface 71 (.int .i64 1)]) ∧ Below W.heap.size W w') := by
    intro W hb
    have h9 := at_any q n c0 l f W hn (hlf.below hb) hs hnm
    rw [har, hae, errV_ne (by decide)] at h9
    exact h9
  have CE1 : Hid (∀ W, Below w0.heap.size w0 W → Calls Tryd.prog 7 #[.iface 71 (.int .i64 1), .int .i64 1] W fun e w' => e = .returned (.bool true) ∧ Below W.heap.size W w') := by
    intro W hb
    have h9 := err_same 1 w0 W HG.out hb
    rw [errV_ne (by decide)] at h9
    exact h9
  have hw : withE l p = 0 := withE_zero.2 ⟨h0, hc⟩
  have hw1 : writeE l p c = wrE l p c := by unfold writeE; rw [if_neg (by simpa using hw)]
  have hw2 : writeL l p c = wrL l p c := by unfold writeL wrL; rw [hw1]
  have hs1 : strikeE l p = putE l p := by unfold strikeE; rw [if_neg (by simpa using hw)]
  have hs2 : strikeL l p = stL l p := by unfold strikeL stL; rw [hs1]
  have hle := ahead_le (p := p.toList) hok.2.1
  rw [hn] at hle hin
  obtain ⟨T2, hT2⟩ : ∃ T2 : ByteArray, T2 = ⟨(text (l.take (ahd l p.toList))).toArray⟩ := ⟨_, rfl⟩
  have hT2s : T2.size = (text (l.take (ahd l p.toList))).length := by rw [hT2]; rfl
  have hof : offR l p = (T2.size : Int) := by unfold offR; rw [if_pos hw, hT2s]
  have hT2l : T2.size ≤ 300 := by
    rw [hT2s]; have := text_len_le (l.take (ahd l p.toList)); rw [List.length_take] at this; omega
  obtain ⟨kw, hkw⟩ : ∃ k, k = wrE l p c := ⟨_, rfl⟩
  obtain ⟨ks, hks⟩ : ∃ k, k = putE l p := ⟨_, rfl⟩
  obtain ⟨ew, hew⟩ : ∃ e, e = errV kw := ⟨_, rfl⟩
  obtain ⟨es, hes⟩ : ∃ e, e = errV ks := ⟨_, rfl⟩
  have CP : Hid (∀ W, Below w0.heap.size w0 W → Calls Tryd.prog 13 #[.string p] W fun e w' => e = .returned (.int .i64 0) ∧ Below W.heap.size W w') := by
    intro W hb
    have h9 := place_ref p W hp
    rw [hc] at h9
    refine h9.mono ?_
    rintro e w' ⟨rfl, rfl⟩
    exact ⟨rfl, Below.refl _ _⟩
  obtain ⟨i, hi⟩ : ∃ i, i = ahd l p.toList := ⟨_, rfl⟩
  rw [← hi] at hT2 hle hin
  have CRA : Hid (∀ W, Below w0.heap.size w0 W → Calls Tryd.prog 14 #[.slice q n c0, .string p] W fun e w' => e = .returned (.int .i64 i) ∧ Below W.heap.size W w') := by
    intro W hb
    have h9 := ahead_ref q n c0 l p W hn (hlf.below hb) (by omega)
    rw [← hi] at h9
    refine h9.mono ?_
    rintro e w' ⟨rfl, rfl⟩
    exact ⟨rfl, Below.refl _ _⟩
  have CRT2 : Hid (∀ W, Below w0.heap.size w0 W → Calls Tryd.prog 9 #[.slice q i c0] W fun e w' => e = .returned (.string T2) ∧ Below W.heap.size W w') := by
    intro W hb
    have h9 := text_ref q i c0 (l.take i) W (by rw [List.length_take]; omega) (LeafsIn.take (hlf.below hb) _) (fun x hx => hok.2.2 x (List.mem_of_mem_take hx)) (by omega)
    rw [← hT2] at h9
    exact h9
  have CF : Hid (∀ W, Below w0.heap.size w0 W → Calls Tryd.prog 15 #[.slice q n c0, .string p] W fun e w' => e = .returned (.tuple #[.int .i64 i, .bool true]) ∧ Below W.heap.size W w') := by
    intro W hb
    have h9 := find_any q n c0 l p W hn (hlf.below hb) hok.2.1 (by omega)
    rw [← hi, hh] at h9
    exact h9
  have CO : Hid (∀ W, Below w0.heap.size w0 W → Calls Tryd.prog 16 #[.slice q n c0, .string p] W fun e w' => e = .returned (.tuple #[.int .i64 T2.size, .nilIface]) ∧ Below W.heap.size W w') := by
    intro W hb
    have h9 := offset_any q n c0 l p W hn (hlf.below hb) hs (by rw [← hn]; exact hc1) hc2 hp
    rw [hof, hw, errV_zero] at h9
    exact h9
  have CEW : Hid (∀ W, Below w0.heap.size w0 W → Calls Tryd.prog 7 #[ew, .int .i64 kw] W fun e w' => e = .returned (.bool true) ∧ Below W.heap.size W w') := by
    intro W hb
    have h9 := err_same kw w0 W HG.out hb
    rw [← hew] at h9
    exact h9
  have CES : Hid (∀ W, Below w0.heap.size w0 W → Calls Tryd.prog 7 #[es, .int .i64 ks] W fun e w' => e = .returned (.bool true) ∧ Below W.heap.size W w') := by
    intro W hb
    have h9 := err_same ks w0 W HG.out hb
    rw [← hes] at h9
    exact h9
  rw [hn] at hv
  subst hv
  have CRW : Hid (∀ W, Below w0.heap.size w0 W → Calls Tryd.prog 17 #[.slice q n c0, .string p, .int .i64 c] W fun e w' => ∃ v', e = .returned (.tuple #[v', .int .i64 kw]) ∧ BookAt w' v' (wrL l p c) ∧ Below W.heap.size W w') := by
    intro W hb
    have h9 := write_ref _ l p c W (HBK.out.below hb) h0
    rw [← hkw] at h9
    exact h9
  have CW : Hid (∀ W, Below w0.heap.size w0 W → Calls Tryd.prog 18 #[.slice q n c0, .string p, .int .i64 c] W fun e w' => ∃ v', e = .returned (.tuple #[v', ew]) ∧ BookAt w' v' (writeL l p c) ∧ Below W.heap.size W w') := by
    intro W hb
    have h9 := write_any _ l p c W (HBK.out.below hb) hs hp
    rw [hw1, ← hkw, ← hew] at h9
    exact h9
  have CRS : Hid (∀ W, Below w0.heap.size w0 W → Calls Tryd.prog 20 #[.slice q n c0, .string p] W fun e w' => ∃ v', e = .returned (.tuple #[v', .int .i64 ks]) ∧ BookAt w' v' (stL l p) ∧ Below W.heap.size W w') := by
    intro W hb
    have h9 := strike_ref _ l p W (HBK.out.below hb) h0
    rw [← hks] at h9
    exact h9
  have CS : Hid (∀ W, Below w0.heap.size w0 W → Calls Tryd.prog 21 #[.slice q n c0, .string p] W fun e w' => ∃ v', e = .returned (.tuple #[v', es]) ∧ BookAt w' v' (strikeL l p) ∧ Below W.heap.size W w') := by
    intro W hb
    have h9 := strike_any _ l p W (HBK.out.below hb) hs hp
    rw [hs1, ← hks, ← hes] at h9
    exact h9
  have HWL : Hid (writeL l p c = wrL l p c) := hw2
  have HSL : Hid (strikeL l p = stL l p) := hs2
  have hiz : (i : Int) ≤ n := by omega
  have hicz : (i : Int) ≤ c0 := by omega
  have hc0m : c0 ≤ 9223372036854775807 := by unfold maxLen at hc2; omega
  have hinz : (i : Int) < n := by omega
  obtain ⟨b, o, rfl, hcc⟩ := hlf.some (by rintro rfl; simp at hn; omega)
  have HCI : Hid (At w0 b o i (l.getD i none0)) := hcc i (by omega)
  have hhu := hh
  unfold has at hhu
  rw [← hi, decide_eq_true (by rw [hn]; exact hin), Bool.true_and] at hhu
  obtain ⟨x, hx⟩ : ∃ x, x = l.getD i none0 := ⟨_, rfl⟩
  rw [← hx] at HCI hhu
  obtain ⟨s0, n0, b0⟩ := x
  simp only at hhu
  clear hx hcc
  clear h hs hp hg h0 hc hlf hc1 hc2 hq0 hn hnm hok hw hw1 hw2 hs1 hs2 hof hkw hks hew hes HBK HG ht hT hae har hT2 hT2s hh hi
  go_enter Tryd.func3, Tryd.ntmps3
  go_wp2_with fail
  refine (CB.out w0 HB0.out).mono ?_
  rintro e w1 ⟨rfl, hb⟩
  have HB1 : Hid (Below w0.heap.size w0 w1) := bel HB0.out hb
  clear hb
  go_wp2_with fail
  refine (CC.out w1 HB1.out).mono ?_
  rintro e w2 ⟨rfl, hb⟩
  have HB2 : Hid (Below w0.heap.size w0 w2) := bel HB1.out hb
  clear hb
  go_wp2_with fail
  refine (CN.out w2 HB2.out).mono ?_
  rintro e w3 ⟨rfl, hb⟩
  have HB3 : Hid (Below w0.heap.size w0 w3) := bel HB2.out hb
  clear hb
  go_wp2_with fail
  refine (CRT.out w3 HB3.out).mono ?_
  rintro e w4 ⟨rfl, hb⟩
  have HB4 : Hid (Below w0.heap.size w0 w4) := bel HB3.out hb
  clear hb
  go_wp2_with fail
  refine (CT.out w4 HB4.out).mono ?_
  rintro e w5 ⟨rfl, hb⟩
  have HB5 : Hid (Below w0.heap.size w0 w5) := bel HB4.out hb
  clear hb
  go_wp2_with fail
  refine (CN.out w5 HB5.out).mono ?_
  rintro e w6 ⟨rfl, hb⟩
  have HB6 : Hid (Below w0.heap.size w0 w6) := bel HB5.out hb
  clear hb
  go_wp2_with fail
  refine (CA.out w6 HB6.out).mono ?_
  rintro e w7 ⟨rfl, hb⟩
  have HB7 : Hid (Below w0.heap.size w0 w7) := bel HB6.out hb
  clear hb
  go_wp2_with fail
  refine (CE1.out w7 HB7.out).mono ?_
  rintro e w8 ⟨rfl, hb⟩
  have HB8 : Hid (Below w0.heap.size w0 w8) := bel HB7.out hb
  clear hb
  go_wp2_with fail
  refine (CP.out w8 HB8.out).mono ?_
  rintro e w9 ⟨rfl, hb⟩
  have HB9 : Hid (Below w0.heap.size w0 w9) := bel HB8.out hb
  clear hb
  go_wp2_with fail
  refine (CRA.out w9 HB9.out).mono ?_
  rintro e w10 ⟨rfl, hb⟩
  have HB10 : Hid (Below w0.heap.size w0 w10) := bel HB9.out hb
  clear hb
  go_wp2_with fail
  refine (CRT2.out w10 HB10.out).mono ?_
  rintro e w11 ⟨rfl, hb⟩
  have HB11 : Hid (Below w0.heap.size w0 w11) := bel HB10.out hb
  clear hb
  go_wp2_with fail
  refine (CF.out w11 HB11.out).mono ?_
  rintro e w12 ⟨rfl, hb⟩
  have HB12 : Hid (Below w0.heap.size w0 w12) := bel HB11.out hb
  clear hb
  have a1 := (HCI.out.below HB12.out HCI.out.lt).1
  simp only at a1
  go_wp2_with fail
  refine (CO.out w12 HB12.out).mono ?_
  rintro e w13 ⟨rfl, hb⟩
  have HB13 : Hid (Below w0.heap.size w0 w13) := bel HB12.out hb
  clear hb
  clear a1
  go_wp2_with fail
  refine (CN.out w13 HB13.out).mono ?_
  rintro e w14 ⟨rfl, hb⟩
  have HB14 : Hid (Below w0.heap.size w0 w14) := bel HB13.out hb
  clear hb
  go_wp2_with fail
  refine (CRW.out w14 HB14.out).mono ?_
  rintro e w15 ⟨x1, rfl, hk, hb⟩
  have HB15 : Hid (Below w0.heap.size w0 w15) := bel HB14.out hb
  have HKx115 : Hid (BookAt w15 x1 (wrL l p c)) := hk
  clear hk
  clear hb
  go_wp2_with fail
  refine (CW.out w15 HB15.out).mono ?_
  rintro e w16 ⟨y1, rfl, hk, hb⟩
  have HB16 : Hid (Below w0.heap.size w0 w16) := bel HB15.out hb
  have HKx116 : Hid (BookAt w16 x1 (wrL l p c)) := HKx115.out.below hb
  clear HKx115
  have HKy116 : Hid (BookAt w16 y1 (writeL l p c)) := hk
  clear hk
  clear hb
  go_wp2_with fail
  refine (CEW.out w16 HB16.out).mono ?_
  rintro e w17 ⟨rfl, hb⟩
  have HB17 : Hid (Below w0.heap.size w0 w17) := bel HB16.out hb
  have HKx117 : Hid (BookAt w17 x1 (wrL l p c)) := HKx116.out.below hb
  clear HKx116
  have HKy117 : Hid (BookAt w17 y1 (writeL l p c)) := HKy116.out.below hb
  clear HKy116
  clear hb
  go_wp2_with fail
  refine (leafs_same y1 x1 (writeL l p c) (wrL l p c) w17 HKy117.out HKx117.out HWL.out (write_len c)).mono ?_
  rintro e w18 ⟨rfl, hb⟩
  have HB18 : Hid (Below w0.heap.size w0 w18) := bel HB17.out hb
  have HKx118 : Hid (BookAt w18 x1 (wrL l p c)) := HKx117.out.below hb
  clear HKx117
  have HKy118 : Hid (BookAt w18 y1 (writeL l p c)) := HKy117.out.below hb
  clear HKy117
  clear hb
  clear HKy118
  clear HKx118
  go_wp2_with fail
  refine (CRS.out w18 HB18.out).mono ?_
  rintro e w19 ⟨x2, rfl, hk, hb⟩
  have HB19 : Hid (Below w0.heap.size w0 w19) := bel HB18.out hb
  have HKx219 : Hid (BookAt w19 x2 (stL l p)) := hk
  clear hk
  clear hb
  go_wp2_with fail
  refine (CS.out w19 HB19.out).mono ?_
  rintro e w20 ⟨y2, rfl, hk, hb⟩
  have HB20 : Hid (Below w0.heap.size w0 w20) := bel HB19.out hb
  have HKx220 : Hid (BookAt w20 x2 (stL l p)) := HKx219.out.below hb
  clear HKx219
  have HKy220 : Hid (BookAt w20 y2 (strikeL l p)) := hk
  clear hk
  clear hb
  go_wp2_with fail
  refine (CES.out w20 HB20.out).mono ?_
  rintro e w21 ⟨rfl, hb⟩
  have HB21 : Hid (Below w0.heap.size w0 w21) := bel HB20.out hb
  have HKx221 : Hid (BookAt w21 x2 (stL l p)) := HKx220.out.below hb
  clear HKx220
  have HKy221 : Hid (BookAt w21 y2 (strikeL l p)) := HKy220.out.below hb
  clear HKy220
  clear hb
  go_wp2_with fail
  refine (leafs_same y2 x2 (strikeL l p) (stL l p) w21 HKy221.out HKx221.out HSL.out strike_len).mono ?_
  rintro e w22 ⟨rfl, hb⟩
  have HB22 : Hid (Below w0.heap.size w0 w22) := bel HB21.out hb
  have HKx222 : Hid (BookAt w22 x2 (stL l p)) := HKx221.out.below hb
  clear HKx221
  have HKy222 : Hid (BookAt w22 y2 (strikeL l p)) := HKy221.out.below hb
  clear HKy221
  clear hb
  clear HKy222
  clear HKx222
  go_wp2_with fail
  go_ret
  exact ⟨by first | rfl | (refine ret_bool ?_; simp), HB22.out⟩

set_option maxRecDepth 100000 in
set_option maxHeartbeats 8000000 in
theorem way12 (v : Value) (l : List Leaf) (p : ByteArray) (f c : Int) (w0 : World) (h : BookAt w0 v l) (hs : ∀ x ∈ l, x.1.size ≤ maxLen) (hp : p.size ≤ maxLen) (hg : ET w0) (h0 : bookE l = 0) (hf : f < 0) (hc : Pm.chk p.toList = 0) (hin : ahd l p.toList < l.length) (hh : has l p.toList = false) :
    Calls Tryd.prog 3 #[v, .string p, .int .i64 f, .int .i64 c] w0 fun e w' => e = .returned (.bool true) ∧ Below w0.heap.size w0 w' := by
  obtain ⟨q, c0, hv, hlf, hc1, hc2, hq0⟩ := id h
  have HBK : Hid (BookAt w0 v l) := h
  have HB0 : Hid (Below w0.heap.size w0 w0) := Below.refl _ _
  have HG : Hid (ET w0) := hg
  have hok := book_ok h0
  obtain ⟨n, hn⟩ : ∃ n, l.length = n := ⟨_, rfl⟩
  have hn300 : n ≤ 300 := by rw [← hn]; exact hok.1
  have hnm : n ≤ maxLen := by unfold maxLen; omega
  have ht : textR l = ⟨(text l).toArray⟩ := by unfold textR; rw [if_pos h0]
  obtain ⟨T, hT⟩ : ∃ T : ByteArray, T = ⟨(text l).toArray⟩ := ⟨_, rfl⟩
  have hae : atE l f = 1 := by unfold atE; rw [if_neg (by simpa using h0), if_pos hf]
  have har : atR l f = 0 := by unfold atR; rw [hae, if_neg (by decide)]
  have CB : Hid (∀ W, Below w0.heap.size w0 W → Calls Tryd.prog 6 #[.slice q n c0] W fun e w' => e = .returned (.int .i64 0) ∧ Below W.heap.size W w') := by
    intro W hb
    have h9 := book_ref q n c0 l W hn (hlf.below hb) hs hnm
    rw [h0] at h9
    exact h9
  have CC : Hid (∀ W, Below w0.heap.size w0 W → Calls Tryd.prog 8 #[.slice q n c0] W fun e w' => e = .returned (.nilIface) ∧ Below W.heap.size W w') := by
    intro W hb
    have h9 := check_book q n c0 l W hn (hlf.below hb) hs hnm
    rw [h0, errV_zero] at h9
    exact h9
  have CN : Hid (∀ W, Below w0.heap.size w0 W → Calls Tryd.prog 7 #[.nilIface, .int .i64 0] W fun e w' => e = .returned (.bool true) ∧ Below W.heap.size W w') := by
    intro W hb
    have h9 := err_same 0 w0 W HG.out hb
    rw [errV_zero] at h9
    exact h9
  have CRT : Hid (∀ W, Below w0.heap.size w0 W → Calls Tryd.prog 9 #[.slice q n c0] W fun e w' => e = .returned (.string T) ∧ Below W.heap.size W w') := by
    intro W hb
    have h9 := text_ref q n c0 l W hn (hlf.below hb) hok.2.2 (by omega)
    rw [← hT] at h9
    exact h9
  have CT : Hid (∀ W, Below w0.heap.size w0 W → Calls Tryd.prog 11 #[.slice q n c0] W fun e w' => e = .returned (.tuple #[.string T, .nilIface]) ∧ Below W.heap.size W w') := by
    intro W hb
    have h9 := text_any q n c0 l W hn (hlf.below hb) hs hnm
    rw [ht, ← hT, h0, errV_zero] at h9
    exact h9
  have CA : Hid (∀ W, Below w0.heap.size w0 W → Calls Tryd.prog 12 #[.slice q n c0, .int .i64 f] W fun e w' => e = .returned (.tuple #[.int .i64 0, .iface 71 (.int .i64 1)]) ∧ Below W.heap.size W w') := by
    intro W hb
    have h9 := at_any q n c0 l f W hn (hlf.below hb) hs hnm
    rw [har, hae, errV_ne (by decide)] at h9
    exact h9
  have CE1 : Hid (∀ W, Below w0.heap.size w0 W → Calls Tryd.prog 7 #[.iface 71 (.int .i64 1), .int .i64 1] W fun e w' => e = .returned (.bool true) ∧ Below W.heap.size W w') := by
    intro W hb
    have h9 := err_same 1 w0 W HG.out hb
    rw [errV_ne (by decide)] at h9
    exact h9
  have hw : withE l p = 0 := withE_zero.2 ⟨h0, hc⟩
  have hw1 : writeE l p c = wrE l p c := by unfold writeE; rw [if_neg (by simpa using hw)]
  have hw2 : writeL l p c = wrL l p c := by unfold writeL wrL; rw [hw1]
  have hs1 : strikeE l p = putE l p := by unfold strikeE; rw [if_neg (by simpa using hw)]
  have hs2 : strikeL l p = stL l p := by unfold strikeL stL; rw [hs1]
  have hle := ahead_le (p := p.toList) hok.2.1
  rw [hn] at hle hin
  obtain ⟨T2, hT2⟩ : ∃ T2 : ByteArray, T2 = ⟨(text (l.take (ahd l p.toList))).toArray⟩ := ⟨_, rfl⟩
  have hT2s : T2.size = (text (l.take (ahd l p.toList))).length := by rw [hT2]; rfl
  have hof : offR l p = (T2.size : Int) := by unfold offR; rw [if_pos hw, hT2s]
  have hT2l : T2.size ≤ 300 := by
    rw [hT2s]; have := text_len_le (l.take (ahd l p.toList)); rw [List.length_take] at this; omega
  obtain ⟨kw, hkw⟩ : ∃ k, k = wrE l p c := ⟨_, rfl⟩
  obtain ⟨ks, hks⟩ : ∃ k, k = putE l p := ⟨_, rfl⟩
  obtain ⟨ew, hew⟩ : ∃ e, e = errV kw := ⟨_, rfl⟩
  obtain ⟨es, hes⟩ : ∃ e, e = errV ks := ⟨_, rfl⟩
  have CP : Hid (∀ W, Below w0.heap.size w0 W → Calls Tryd.prog 13 #[.string p] W fun e w' => e = .returned (.int .i64 0) ∧ Below W.heap.size W w') := by
    intro W hb
    have h9 := place_ref p W hp
    rw [hc] at h9
    refine h9.mono ?_
    rintro e w' ⟨rfl, rfl⟩
    exact ⟨rfl, Below.refl _ _⟩
  obtain ⟨i, hi⟩ : ∃ i, i = ahd l p.toList := ⟨_, rfl⟩
  rw [← hi] at hT2 hle hin
  have CRA : Hid (∀ W, Below w0.heap.size w0 W → Calls Tryd.prog 14 #[.slice q n c0, .string p] W fun e w' => e = .returned (.int .i64 i) ∧ Below W.heap.size W w') := by
    intro W hb
    have h9 := ahead_ref q n c0 l p W hn (hlf.below hb) (by omega)
    rw [← hi] at h9
    refine h9.mono ?_
    rintro e w' ⟨rfl, rfl⟩
    exact ⟨rfl, Below.refl _ _⟩
  have CRT2 : Hid (∀ W, Below w0.heap.size w0 W → Calls Tryd.prog 9 #[.slice q i c0] W fun e w' => e = .returned (.string T2) ∧ Below W.heap.size W w') := by
    intro W hb
    have h9 := text_ref q i c0 (l.take i) W (by rw [List.length_take]; omega) (LeafsIn.take (hlf.below hb) _) (fun x hx => hok.2.2 x (List.mem_of_mem_take hx)) (by omega)
    rw [← hT2] at h9
    exact h9
  have CF : Hid (∀ W, Below w0.heap.size w0 W → Calls Tryd.prog 15 #[.slice q n c0, .string p] W fun e w' => e = .returned (.tuple #[.int .i64 i, .bool false]) ∧ Below W.heap.size W w') := by
    intro W hb
    have h9 := find_any q n c0 l p W hn (hlf.below hb) hok.2.1 (by omega)
    rw [← hi, hh] at h9
    exact h9
  have CO : Hid (∀ W, Below w0.heap.size w0 W → Calls Tryd.prog 16 #[.slice q n c0, .string p] W fun e w' => e = .returned (.tuple #[.int .i64 T2.size, .nilIface]) ∧ Below W.heap.size W w') := by
    intro W hb
    have h9 := offset_any q n c0 l p W hn (hlf.below hb) hs (by rw [← hn]; exact hc1) hc2 hp
    rw [hof, hw, errV_zero] at h9
    exact h9
  have CEW : Hid (∀ W, Below w0.heap.size w0 W → Calls Tryd.prog 7 #[ew, .int .i64 kw] W fun e w' => e = .returned (.bool true) ∧ Below W.heap.size W w') := by
    intro W hb
    have h9 := err_same kw w0 W HG.out hb
    rw [← hew] at h9
    exact h9
  have CES : Hid (∀ W, Below w0.heap.size w0 W → Calls Tryd.prog 7 #[es, .int .i64 ks] W fun e w' => e = .returned (.bool true) ∧ Below W.heap.size W w') := by
    intro W hb
    have h9 := err_same ks w0 W HG.out hb
    rw [← hes] at h9
    exact h9
  rw [hn] at hv
  subst hv
  have CRW : Hid (∀ W, Below w0.heap.size w0 W → Calls Tryd.prog 17 #[.slice q n c0, .string p, .int .i64 c] W fun e w' => ∃ v', e = .returned (.tuple #[v', .int .i64 kw]) ∧ BookAt w' v' (wrL l p c) ∧ Below W.heap.size W w') := by
    intro W hb
    have h9 := write_ref _ l p c W (HBK.out.below hb) h0
    rw [← hkw] at h9
    exact h9
  have CW : Hid (∀ W, Below w0.heap.size w0 W → Calls Tryd.prog 18 #[.slice q n c0, .string p, .int .i64 c] W fun e w' => ∃ v', e = .returned (.tuple #[v', ew]) ∧ BookAt w' v' (writeL l p c) ∧ Below W.heap.size W w') := by
    intro W hb
    have h9 := write_any _ l p c W (HBK.out.below hb) hs hp
    rw [hw1, ← hkw, ← hew] at h9
    exact h9
  have CRS : Hid (∀ W, Below w0.heap.size w0 W → Calls Tryd.prog 20 #[.slice q n c0, .string p] W fun e w' => ∃ v', e = .returned (.tuple #[v', .int .i64 ks]) ∧ BookAt w' v' (stL l p) ∧ Below W.heap.size W w') := by
    intro W hb
    have h9 := strike_ref _ l p W (HBK.out.below hb) h0
    rw [← hks] at h9
    exact h9
  have CS : Hid (∀ W, Below w0.heap.size w0 W → Calls Tryd.prog 21 #[.slice q n c0, .string p] W fun e w' => ∃ v', e = .returned (.tuple #[v', es]) ∧ BookAt w' v' (strikeL l p) ∧ Below W.heap.size W w') := by
    intro W hb
    have h9 := strike_any _ l p W (HBK.out.below hb) hs hp
    rw [hs1, ← hks, ← hes] at h9
    exact h9
  have HWL : Hid (writeL l p c = wrL l p c) := hw2
  have HSL : Hid (strikeL l p = stL l p) := hs2
  have hiz : (i : Int) ≤ n := by omega
  have hicz : (i : Int) ≤ c0 := by omega
  have hc0m : c0 ≤ 9223372036854775807 := by unfold maxLen at hc2; omega
  have hinz : (i : Int) < n := by omega
  obtain ⟨b, o, rfl, hcc⟩ := hlf.some (by rintro rfl; simp at hn; omega)
  have HCI : Hid (At w0 b o i (l.getD i none0)) := hcc i (by omega)
  have hhu := hh
  unfold has at hhu
  rw [← hi, decide_eq_true (by rw [hn]; exact hin), Bool.true_and] at hhu
  obtain ⟨x, hx⟩ : ∃ x, x = l.getD i none0 := ⟨_, rfl⟩
  rw [← hx] at HCI hhu
  obtain ⟨s0, n0, b0⟩ := x
  simp only at hhu
  clear hx hcc
  clear h hs hp hg h0 hc hlf hc1 hc2 hq0 hn hnm hok hw hw1 hw2 hs1 hs2 hof hkw hks hew hes HBK HG ht hT hae har hT2 hT2s hh hi
  go_enter Tryd.func3, Tryd.ntmps3
  go_wp2_with fail
  refine (CB.out w0 HB0.out).mono ?_
  rintro e w1 ⟨rfl, hb⟩
  have HB1 : Hid (Below w0.heap.size w0 w1) := bel HB0.out hb
  clear hb
  go_wp2_with fail
  refine (CC.out w1 HB1.out).mono ?_
  rintro e w2 ⟨rfl, hb⟩
  have HB2 : Hid (Below w0.heap.size w0 w2) := bel HB1.out hb
  clear hb
  go_wp2_with fail
  refine (CN.out w2 HB2.out).mono ?_
  rintro e w3 ⟨rfl, hb⟩
  have HB3 : Hid (Below w0.heap.size w0 w3) := bel HB2.out hb
  clear hb
  go_wp2_with fail
  refine (CRT.out w3 HB3.out).mono ?_
  rintro e w4 ⟨rfl, hb⟩
  have HB4 : Hid (Below w0.heap.size w0 w4) := bel HB3.out hb
  clear hb
  go_wp2_with fail
  refine (CT.out w4 HB4.out).mono ?_
  rintro e w5 ⟨rfl, hb⟩
  have HB5 : Hid (Below w0.heap.size w0 w5) := bel HB4.out hb
  clear hb
  go_wp2_with fail
  refine (CN.out w5 HB5.out).mono ?_
  rintro e w6 ⟨rfl, hb⟩
  have HB6 : Hid (Below w0.heap.size w0 w6) := bel HB5.out hb
  clear hb
  go_wp2_with fail
  refine (CA.out w6 HB6.out).mono ?_
  rintro e w7 ⟨rfl, hb⟩
  have HB7 : Hid (Below w0.heap.size w0 w7) := bel HB6.out hb
  clear hb
  go_wp2_with fail
  refine (CE1.out w7 HB7.out).mono ?_
  rintro e w8 ⟨rfl, hb⟩
  have HB8 : Hid (Below w0.heap.size w0 w8) := bel HB7.out hb
  clear hb
  go_wp2_with fail
  refine (CP.out w8 HB8.out).mono ?_
  rintro e w9 ⟨rfl, hb⟩
  have HB9 : Hid (Below w0.heap.size w0 w9) := bel HB8.out hb
  clear hb
  go_wp2_with fail
  refine (CRA.out w9 HB9.out).mono ?_
  rintro e w10 ⟨rfl, hb⟩
  have HB10 : Hid (Below w0.heap.size w0 w10) := bel HB9.out hb
  clear hb
  go_wp2_with fail
  refine (CRT2.out w10 HB10.out).mono ?_
  rintro e w11 ⟨rfl, hb⟩
  have HB11 : Hid (Below w0.heap.size w0 w11) := bel HB10.out hb
  clear hb
  go_wp2_with fail
  refine (CF.out w11 HB11.out).mono ?_
  rintro e w12 ⟨rfl, hb⟩
  have HB12 : Hid (Below w0.heap.size w0 w12) := bel HB11.out hb
  clear hb
  have a1 := (HCI.out.below HB12.out HCI.out.lt).1
  simp only at a1
  go_wp2_with fail
  refine (CO.out w12 HB12.out).mono ?_
  rintro e w13 ⟨rfl, hb⟩
  have HB13 : Hid (Below w0.heap.size w0 w13) := bel HB12.out hb
  clear hb
  clear a1
  go_wp2_with fail
  refine (CN.out w13 HB13.out).mono ?_
  rintro e w14 ⟨rfl, hb⟩
  have HB14 : Hid (Below w0.heap.size w0 w14) := bel HB13.out hb
  clear hb
  go_wp2_with fail
  refine (CRW.out w14 HB14.out).mono ?_
  rintro e w15 ⟨x1, rfl, hk, hb⟩
  have HB15 : Hid (Below w0.heap.size w0 w15) := bel HB14.out hb
  have HKx115 : Hid (BookAt w15 x1 (wrL l p c)) := hk
  clear hk
  clear hb
  go_wp2_with fail
  refine (CW.out w15 HB15.out).mono ?_
  rintro e w16 ⟨y1, rfl, hk, hb⟩
  have HB16 : Hid (Below w0.heap.size w0 w16) := bel HB15.out hb
  have HKx116 : Hid (BookAt w16 x1 (wrL l p c)) := HKx115.out.below hb
  clear HKx115
  have HKy116 : Hid (BookAt w16 y1 (writeL l p c)) := hk
  clear hk
  clear hb
  go_wp2_with fail
  refine (CEW.out w16 HB16.out).mono ?_
  rintro e w17 ⟨rfl, hb⟩
  have HB17 : Hid (Below w0.heap.size w0 w17) := bel HB16.out hb
  have HKx117 : Hid (BookAt w17 x1 (wrL l p c)) := HKx116.out.below hb
  clear HKx116
  have HKy117 : Hid (BookAt w17 y1 (writeL l p c)) := HKy116.out.below hb
  clear HKy116
  clear hb
  go_wp2_with fail
  refine (leafs_same y1 x1 (writeL l p c) (wrL l p c) w17 HKy117.out HKx117.out HWL.out (write_len c)).mono ?_
  rintro e w18 ⟨rfl, hb⟩
  have HB18 : Hid (Below w0.heap.size w0 w18) := bel HB17.out hb
  have HKx118 : Hid (BookAt w18 x1 (wrL l p c)) := HKx117.out.below hb
  clear HKx117
  have HKy118 : Hid (BookAt w18 y1 (writeL l p c)) := HKy117.out.below hb
  clear HKy117
  clear hb
  clear HKy118
  clear HKx118
  go_wp2_with fail
  refine (CRS.out w18 HB18.out).mono ?_
  rintro e w19 ⟨x2, rfl, hk, hb⟩
  have HB19 : Hid (Below w0.heap.size w0 w19) := bel HB18.out hb
  have HKx219 : Hid (BookAt w19 x2 (stL l p)) := hk
  clear hk
  clear hb
  go_wp2_with fail
  refine (CS.out w19 HB19.out).mono ?_
  rintro e w20 ⟨y2, rfl, hk, hb⟩
  have HB20 : Hid (Below w0.heap.size w0 w20) := bel HB19.out hb
  have HKx220 : Hid (BookAt w20 x2 (stL l p)) := HKx219.out.below hb
  clear HKx219
  have HKy220 : Hid (BookAt w20 y2 (strikeL l p)) := hk
  clear hk
  clear hb
  go_wp2_with fail
  refine (CES.out w20 HB20.out).mono ?_
  rintro e w21 ⟨rfl, hb⟩
  have HB21 : Hid (Below w0.heap.size w0 w21) := bel HB20.out hb
  have HKx221 : Hid (BookAt w21 x2 (stL l p)) := HKx220.out.below hb
  clear HKx220
  have HKy221 : Hid (BookAt w21 y2 (strikeL l p)) := HKy220.out.below hb
  clear HKy220
  clear hb
  go_wp2_with fail
  refine (leafs_same y2 x2 (strikeL l p) (stL l p) w21 HKy221.out HKx221.out HSL.out strike_len).mono ?_
  rintro e w22 ⟨rfl, hb⟩
  have HB22 : Hid (Below w0.heap.size w0 w22) := bel HB21.out hb
  have HKx222 : Hid (BookAt w22 x2 (stL l p)) := HKx221.out.below hb
  clear HKx221
  have HKy222 : Hid (BookAt w22 y2 (strikeL l p)) := HKy221.out.below hb
  clear HKy221
  clear hb
  clear HKy222
  clear HKx222
  go_wp2_with fail
  go_ret
  exact ⟨by first | rfl | (refine ret_bool ?_; simp), HB22.out⟩

set_option maxRecDepth 100000 in
set_option maxHeartbeats 8000000 in
theorem way13 (v : Value) (l : List Leaf) (p : ByteArray) (f c : Int) (w0 : World) (h : BookAt w0 v l) (hs : ∀ x ∈ l, x.1.size ≤ maxLen) (hp : p.size ≤ maxLen) (hg : ET w0) (h0 : bookE l = 0) (hf : f < 0) (hc : Pm.chk p.toList = 0) (hin : ¬ ahd l p.toList < l.length) :
    Calls Tryd.prog 3 #[v, .string p, .int .i64 f, .int .i64 c] w0 fun e w' => e = .returned (.bool true) ∧ Below w0.heap.size w0 w' := by
  obtain ⟨q, c0, hv, hlf, hc1, hc2, hq0⟩ := id h
  have HBK : Hid (BookAt w0 v l) := h
  have HB0 : Hid (Below w0.heap.size w0 w0) := Below.refl _ _
  have HG : Hid (ET w0) := hg
  have hok := book_ok h0
  obtain ⟨n, hn⟩ : ∃ n, l.length = n := ⟨_, rfl⟩
  have hn300 : n ≤ 300 := by rw [← hn]; exact hok.1
  have hnm : n ≤ maxLen := by unfold maxLen; omega
  have ht : textR l = ⟨(text l).toArray⟩ := by unfold textR; rw [if_pos h0]
  obtain ⟨T, hT⟩ : ∃ T : ByteArray, T = ⟨(text l).toArray⟩ := ⟨_, rfl⟩
  have hae : atE l f = 1 := by unfold atE; rw [if_neg (by simpa using h0), if_pos hf]
  have har : atR l f = 0 := by unfold atR; rw [hae, if_neg (by decide)]
  have CB : Hid (∀ W, Below w0.heap.size w0 W → Calls Tryd.prog 6 #[.slice q n c0] W fun e w' => e = .returned (.int .i64 0) ∧ Below W.heap.size W w') := by
    intro W hb
    have h9 := book_ref q n c0 l W hn (hlf.below hb) hs hnm
    rw [h0] at h9
    exact h9
  have CC : Hid (∀ W, Below w0.heap.size w0 W → Calls Tryd.prog 8 #[.slice q n c0] W fun e w' => e = .returned (.nilIface) ∧ Below W.heap.size W w') := by
    intro W hb
    have h9 := check_book q n c0 l W hn (hlf.below hb) hs hnm
    rw [h0, errV_zero] at h9
    exact h9
  have CN : Hid (∀ W, Below w0.heap.size w0 W → Calls Tryd.prog 7 #[.nilIface, .int .i64 0] W fun e w' => e = .returned (.bool true) ∧ Below W.heap.size W w') := by
    intro W hb
    have h9 := err_same 0 w0 W HG.out hb
    rw [errV_zero] at h9
    exact h9
  have CRT : Hid (∀ W, Below w0.heap.size w0 W → Calls Tryd.prog 9 #[.slice q n c0] W fun e w' => e = .returned (.string T) ∧ Below W.heap.size W w') := by
    intro W hb
    have h9 := text_ref q n c0 l W hn (hlf.below hb) hok.2.2 (by omega)
    rw [← hT] at h9
    exact h9
  have CT : Hid (∀ W, Below w0.heap.size w0 W → Calls Tryd.prog 11 #[.slice q n c0] W fun e w' => e = .returned (.tuple #[.string T, .nilIface]) ∧ Below W.heap.size W w') := by
    intro W hb
    have h9 := text_any q n c0 l W hn (hlf.below hb) hs hnm
    rw [ht, ← hT, h0, errV_zero] at h9
    exact h9
  have CA : Hid (∀ W, Below w0.heap.size w0 W → Calls Tryd.prog 12 #[.slice q n c0, .int .i64 f] W fun e w' => e = .returned (.tuple #[.int .i64 0, .iface 71 (.int .i64 1)]) ∧ Below W.heap.size W w') := by
    intro W hb
    have h9 := at_any q n c0 l f W hn (hlf.below hb) hs hnm
    rw [har, hae, errV_ne (by decide)] at h9
    exact h9
  have CE1 : Hid (∀ W, Below w0.heap.size w0 W → Calls Tryd.prog 7 #[.iface 71 (.int .i64 1), .int .i64 1] W fun e w' => e = .returned (.bool true) ∧ Below W.heap.size W w') := by
    intro W hb
    have h9 := err_same 1 w0 W HG.out hb
    rw [errV_ne (by decide)] at h9
    exact h9
  have hw : withE l p = 0 := withE_zero.2 ⟨h0, hc⟩
  have hw1 : writeE l p c = wrE l p c := by unfold writeE; rw [if_neg (by simpa using hw)]
  have hw2 : writeL l p c = wrL l p c := by unfold writeL wrL; rw [hw1]
  have hs1 : strikeE l p = putE l p := by unfold strikeE; rw [if_neg (by simpa using hw)]
  have hs2 : strikeL l p = stL l p := by unfold strikeL stL; rw [hs1]
  have hle := ahead_le (p := p.toList) hok.2.1
  rw [hn] at hle hin
  obtain ⟨T2, hT2⟩ : ∃ T2 : ByteArray, T2 = ⟨(text (l.take (ahd l p.toList))).toArray⟩ := ⟨_, rfl⟩
  have hT2s : T2.size = (text (l.take (ahd l p.toList))).length := by rw [hT2]; rfl
  have hof : offR l p = (T2.size : Int) := by unfold offR; rw [if_pos hw, hT2s]
  have hT2l : T2.size ≤ 300 := by
    rw [hT2s]; have := text_len_le (l.take (ahd l p.toList)); rw [List.length_take] at this; omega
  obtain ⟨kw, hkw⟩ : ∃ k, k = wrE l p c := ⟨_, rfl⟩
  obtain ⟨ks, hks⟩ : ∃ k, k = putE l p := ⟨_, rfl⟩
  obtain ⟨ew, hew⟩ : ∃ e, e = errV kw := ⟨_, rfl⟩
  obtain ⟨es, hes⟩ : ∃ e, e = errV ks := ⟨_, rfl⟩
  have hh : has l p.toList = false := by unfold has; rw [decide_eq_false (by rw [hn]; exact hin)]; rfl
  have CP : Hid (∀ W, Below w0.heap.size w0 W → Calls Tryd.prog 13 #[.string p] W fun e w' => e = .returned (.int .i64 0) ∧ Below W.heap.size W w') := by
    intro W hb
    have h9 := place_ref p W hp
    rw [hc] at h9
    refine h9.mono ?_
    rintro e w' ⟨rfl, rfl⟩
    exact ⟨rfl, Below.refl _ _⟩
  obtain ⟨i, hi⟩ : ∃ i, i = ahd l p.toList := ⟨_, rfl⟩
  rw [← hi] at hT2 hle hin
  have CRA : Hid (∀ W, Below w0.heap.size w0 W → Calls Tryd.prog 14 #[.slice q n c0, .string p] W fun e w' => e = .returned (.int .i64 i) ∧ Below W.heap.size W w') := by
    intro W hb
    have h9 := ahead_ref q n c0 l p W hn (hlf.below hb) (by omega)
    rw [← hi] at h9
    refine h9.mono ?_
    rintro e w' ⟨rfl, rfl⟩
    exact ⟨rfl, Below.refl _ _⟩
  have CRT2 : Hid (∀ W, Below w0.heap.size w0 W → Calls Tryd.prog 9 #[.slice q i c0] W fun e w' => e = .returned (.string T2) ∧ Below W.heap.size W w') := by
    intro W hb
    have h9 := text_ref q i c0 (l.take i) W (by rw [List.length_take]; omega) (LeafsIn.take (hlf.below hb) _) (fun x hx => hok.2.2 x (List.mem_of_mem_take hx)) (by omega)
    rw [← hT2] at h9
    exact h9
  have CF : Hid (∀ W, Below w0.heap.size w0 W → Calls Tryd.prog 15 #[.slice q n c0, .string p] W fun e w' => e = .returned (.tuple #[.int .i64 i, .bool false]) ∧ Below W.heap.size W w') := by
    intro W hb
    have h9 := find_any q n c0 l p W hn (hlf.below hb) hok.2.1 (by omega)
    rw [← hi, hh] at h9
    exact h9
  have CO : Hid (∀ W, Below w0.heap.size w0 W → Calls Tryd.prog 16 #[.slice q n c0, .string p] W fun e w' => e = .returned (.tuple #[.int .i64 T2.size, .nilIface]) ∧ Below W.heap.size W w') := by
    intro W hb
    have h9 := offset_any q n c0 l p W hn (hlf.below hb) hs (by rw [← hn]; exact hc1) hc2 hp
    rw [hof, hw, errV_zero] at h9
    exact h9
  have CEW : Hid (∀ W, Below w0.heap.size w0 W → Calls Tryd.prog 7 #[ew, .int .i64 kw] W fun e w' => e = .returned (.bool true) ∧ Below W.heap.size W w') := by
    intro W hb
    have h9 := err_same kw w0 W HG.out hb
    rw [← hew] at h9
    exact h9
  have CES : Hid (∀ W, Below w0.heap.size w0 W → Calls Tryd.prog 7 #[es, .int .i64 ks] W fun e w' => e = .returned (.bool true) ∧ Below W.heap.size W w') := by
    intro W hb
    have h9 := err_same ks w0 W HG.out hb
    rw [← hes] at h9
    exact h9
  rw [hn] at hv
  subst hv
  have CRW : Hid (∀ W, Below w0.heap.size w0 W → Calls Tryd.prog 17 #[.slice q n c0, .string p, .int .i64 c] W fun e w' => ∃ v', e = .returned (.tuple #[v', .int .i64 kw]) ∧ BookAt w' v' (wrL l p c) ∧ Below W.heap.size W w') := by
    intro W hb
    have h9 := write_ref _ l p c W (HBK.out.below hb) h0
    rw [← hkw] at h9
    exact h9
  have CW : Hid (∀ W, Below w0.heap.size w0 W → Calls Tryd.prog 18 #[.slice q n c0, .string p, .int .i64 c] W fun e w' => ∃ v', e = .returned (.tuple #[v', ew]) ∧ BookAt w' v' (writeL l p c) ∧ Below W.heap.size W w') := by
    intro W hb
    have h9 := write_any _ l p c W (HBK.out.below hb) hs hp
    rw [hw1, ← hkw, ← hew] at h9
    exact h9
  have CRS : Hid (∀ W, Below w0.heap.size w0 W → Calls Tryd.prog 20 #[.slice q n c0, .string p] W fun e w' => ∃ v', e = .returned (.tuple #[v', .int .i64 ks]) ∧ BookAt w' v' (stL l p) ∧ Below W.heap.size W w') := by
    intro W hb
    have h9 := strike_ref _ l p W (HBK.out.below hb) h0
    rw [← hks] at h9
    exact h9
  have CS : Hid (∀ W, Below w0.heap.size w0 W → Calls Tryd.prog 21 #[.slice q n c0, .string p] W fun e w' => ∃ v', e = .returned (.tuple #[v', es]) ∧ BookAt w' v' (strikeL l p) ∧ Below W.heap.size W w') := by
    intro W hb
    have h9 := strike_any _ l p W (HBK.out.below hb) hs hp
    rw [hs1, ← hks, ← hes] at h9
    exact h9
  have HWL : Hid (writeL l p c = wrL l p c) := hw2
  have HSL : Hid (strikeL l p = stL l p) := hs2
  have hiz : (i : Int) ≤ n := by omega
  have hicz : (i : Int) ≤ c0 := by omega
  have hc0m : c0 ≤ 9223372036854775807 := by unfold maxLen at hc2; omega
  have hinz : ¬ (i : Int) < n := by omega
  clear h hs hp hg h0 hc hlf hc1 hc2 hq0 hn hnm hok hw hw1 hw2 hs1 hs2 hof hkw hks hew hes HBK HG ht hT hae har hT2 hT2s hh hi
  go_enter Tryd.func3, Tryd.ntmps3
  go_wp2_with fail
  refine (CB.out w0 HB0.out).mono ?_
  rintro e w1 ⟨rfl, hb⟩
  have HB1 : Hid (Below w0.heap.size w0 w1) := bel HB0.out hb
  clear hb
  go_wp2_with fail
  refine (CC.out w1 HB1.out).mono ?_
  rintro e w2 ⟨rfl, hb⟩
  have HB2 : Hid (Below w0.heap.size w0 w2) := bel HB1.out hb
  clear hb
  go_wp2_with fail
  refine (CN.out w2 HB2.out).mono ?_
  rintro e w3 ⟨rfl, hb⟩
  have HB3 : Hid (Below w0.heap.size w0 w3) := bel HB2.out hb
  clear hb
  go_wp2_with fail
  refine (CRT.out w3 HB3.out).mono ?_
  rintro e w4 ⟨rfl, hb⟩
  have HB4 : Hid (Below w0.heap.size w0 w4) := bel HB3.out hb
  clear hb
  go_wp2_with fail
  refine (CT.out w4 HB4.out).mono ?_
  rintro e w5 ⟨rfl, hb⟩
  have HB5 : Hid (Below w0.heap.size w0 w5) := bel HB4.out hb
  clear hb
  go_wp2_with fail
  refine (CN.out w5 HB5.out).mono ?_
  rintro e w6 ⟨rfl, hb⟩
  have HB6 : Hid (Below w0.heap.size w0 w6) := bel HB5.out hb
  clear hb
  go_wp2_with fail
  refine (CA.out w6 HB6.out).mono ?_
  rintro e w7 ⟨rfl, hb⟩
  have HB7 : Hid (Below w0.heap.size w0 w7) := bel HB6.out hb
  clear hb
  go_wp2_with fail
  refine (CE1.out w7 HB7.out).mono ?_
  rintro e w8 ⟨rfl, hb⟩
  have HB8 : Hid (Below w0.heap.size w0 w8) := bel HB7.out hb
  clear hb
  go_wp2_with fail
  refine (CP.out w8 HB8.out).mono ?_
  rintro e w9 ⟨rfl, hb⟩
  have HB9 : Hid (Below w0.heap.size w0 w9) := bel HB8.out hb
  clear hb
  go_wp2_with fail
  refine (CRA.out w9 HB9.out).mono ?_
  rintro e w10 ⟨rfl, hb⟩
  have HB10 : Hid (Below w0.heap.size w0 w10) := bel HB9.out hb
  clear hb
  go_wp2_with fail
  refine (CRT2.out w10 HB10.out).mono ?_
  rintro e w11 ⟨rfl, hb⟩
  have HB11 : Hid (Below w0.heap.size w0 w11) := bel HB10.out hb
  clear hb
  go_wp2_with fail
  refine (CF.out w11 HB11.out).mono ?_
  rintro e w12 ⟨rfl, hb⟩
  have HB12 : Hid (Below w0.heap.size w0 w12) := bel HB11.out hb
  clear hb
  go_wp2_with fail
  refine (CO.out w12 HB12.out).mono ?_
  rintro e w13 ⟨rfl, hb⟩
  have HB13 : Hid (Below w0.heap.size w0 w13) := bel HB12.out hb
  clear hb
  go_wp2_with fail
  refine (CN.out w13 HB13.out).mono ?_
  rintro e w14 ⟨rfl, hb⟩
  have HB14 : Hid (Below w0.heap.size w0 w14) := bel HB13.out hb
  clear hb
  go_wp2_with fail
  refine (CRW.out w14 HB14.out).mono ?_
  rintro e w15 ⟨x1, rfl, hk, hb⟩
  have HB15 : Hid (Below w0.heap.size w0 w15) := bel HB14.out hb
  have HKx115 : Hid (BookAt w15 x1 (wrL l p c)) := hk
  clear hk
  clear hb
  go_wp2_with fail
  refine (CW.out w15 HB15.out).mono ?_
  rintro e w16 ⟨y1, rfl, hk, hb⟩
  have HB16 : Hid (Below w0.heap.size w0 w16) := bel HB15.out hb
  have HKx116 : Hid (BookAt w16 x1 (wrL l p c)) := HKx115.out.below hb
  clear HKx115
  have HKy116 : Hid (BookAt w16 y1 (writeL l p c)) := hk
  clear hk
  clear hb
  go_wp2_with fail
  refine (CEW.out w16 HB16.out).mono ?_
  rintro e w17 ⟨rfl, hb⟩
  have HB17 : Hid (Below w0.heap.size w0 w17) := bel HB16.out hb
  have HKx117 : Hid (BookAt w17 x1 (wrL l p c)) := HKx116.out.below hb
  clear HKx116
  have HKy117 : Hid (BookAt w17 y1 (writeL l p c)) := HKy116.out.below hb
  clear HKy116
  clear hb
  go_wp2_with fail
  refine (leafs_same y1 x1 (writeL l p c) (wrL l p c) w17 HKy117.out HKx117.out HWL.out (write_len c)).mono ?_
  rintro e w18 ⟨rfl, hb⟩
  have HB18 : Hid (Below w0.heap.size w0 w18) := bel HB17.out hb
  have HKx118 : Hid (BookAt w18 x1 (wrL l p c)) := HKx117.out.below hb
  clear HKx117
  have HKy118 : Hid (BookAt w18 y1 (writeL l p c)) := HKy117.out.below hb
  clear HKy117
  clear hb
  clear HKy118
  clear HKx118
  go_wp2_with fail
  refine (CRS.out w18 HB18.out).mono ?_
  rintro e w19 ⟨x2, rfl, hk, hb⟩
  have HB19 : Hid (Below w0.heap.size w0 w19) := bel HB18.out hb
  have HKx219 : Hid (BookAt w19 x2 (stL l p)) := hk
  clear hk
  clear hb
  go_wp2_with fail
  refine (CS.out w19 HB19.out).mono ?_
  rintro e w20 ⟨y2, rfl, hk, hb⟩
  have HB20 : Hid (Below w0.heap.size w0 w20) := bel HB19.out hb
  have HKx220 : Hid (BookAt w20 x2 (stL l p)) := HKx219.out.below hb
  clear HKx219
  have HKy220 : Hid (BookAt w20 y2 (strikeL l p)) := hk
  clear hk
  clear hb
  go_wp2_with fail
  refine (CES.out w20 HB20.out).mono ?_
  rintro e w21 ⟨rfl, hb⟩
  have HB21 : Hid (Below w0.heap.size w0 w21) := bel HB20.out hb
  have HKx221 : Hid (BookAt w21 x2 (stL l p)) := HKx220.out.below hb
  clear HKx220
  have HKy221 : Hid (BookAt w21 y2 (strikeL l p)) := HKy220.out.below hb
  clear HKy220
  clear hb
  go_wp2_with fail
  refine (leafs_same y2 x2 (strikeL l p) (stL l p) w21 HKy221.out HKx221.out HSL.out strike_len).mono ?_
  rintro e w22 ⟨rfl, hb⟩
  have HB22 : Hid (Below w0.heap.size w0 w22) := bel HB21.out hb
  have HKx222 : Hid (BookAt w22 x2 (stL l p)) := HKx221.out.below hb
  clear HKx221
  have HKy222 : Hid (BookAt w22 y2 (strikeL l p)) := HKy221.out.below hb
  clear HKy221
  clear hb
  clear HKy222
  clear HKx222
  go_wp2_with fail
  go_ret
  exact ⟨by first | rfl | (refine ret_bool ?_; simp), HB22.out⟩

end Gc
end Go.Proofs.YtaefoieoachdfaaDoor
