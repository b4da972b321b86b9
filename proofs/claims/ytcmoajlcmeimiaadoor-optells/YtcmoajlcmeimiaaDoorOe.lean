/- What the reference's Bytes answers, of an op that is right. -/
import Derived.Test.YtcmoajlcmeimiaaDoorOd
namespace Go.Proofs.YtcmoajlcmeimiaaDoor
namespace Oe
set_option linter.unusedVariables false
open Go.ChangeShapes Go.WideShapes Go.ChangeAt Go.RowKit Cm Ka Kb Na Om Oa Oz Oc Od
open La (bel bel_drew errV_zero errV_ne own_ge own_grow own_below)

theorem Row.full {w : World} {B : Nat} {v : Value} {l : List UInt8} (h : Row w B v l) (hl : l ≠ []) : ∃ g N c, v = .slice (some ⟨g, 0, none⟩) N c ∧ Hid (N = l.length) ∧ Hid (∀ j, j < l.length → w.cell? ⟨g, j, none⟩ = some (.int .u8 ((l.getD j 0).toNat : Int))) := by
  obtain ⟨p, c, rfl, h1, h2⟩ := h.slice
  obtain ⟨g, rfl, _⟩ := h1 hl
  exact ⟨g, _, c, rfl, rfl, h2 g rfl⟩
theorem sum_step {l : List UInt8} {k : Nat} (hk : k < l.length) : sumB (l.take (k + 1)) = sumB (l.take k) + ((l.getD k 0).toNat : Int) := by
  rw [List.take_add_one, List.getElem?_eq_getElem hk, List.getD_eq_getElem?_getD, List.getElem?_eq_getElem hk]
  exact sumB_snoc _ _
theorem seen_step {s : List Dt} {k : Nat} (hk : k < s.length) : seenB (s.take (k + 1)) = seenB (s.take k) ++ (u8 (s.getD k noneD).1 :: b2 (s.getD k noneD).2) := by
  rw [List.take_add_one, List.getElem?_eq_getElem hk, List.getD_eq_getElem?_getD, List.getElem?_eq_getElem hk, seenB_append]
  show _ ++ seenB [s[k]] = _
  unfold seenB; simp
theorem dts_at {W : World} {b0 o0 n cs : Nat} {s : List Dt} {k : Nat} (h : DtsAt W (.slice (some ⟨b0, o0, none⟩) n cs) s) (hk : k < s.length) : DAt W b0 o0 k (s.getD k noneD) := by
  obtain ⟨q, c, e, hi, _⟩ := h
  injection e with e1 e2 e3
  obtain ⟨b, o, e4, hc⟩ := hi.some (by intro e; rw [e] at hk; simp at hk)
  rw [← e1] at e4
  injection e4 with e4
  injection e4 with e5 e6
  subst e5 e6
  exact hc k hk
theorem dts_some {W : World} {ps : Option Addr} {n cs : Nat} {s : List Dt} {k : Nat} (h : DtsAt W (.slice ps n cs) s) (hk : k < s.length) : ∃ b o, ps = some ⟨b, o, none⟩ := by
  obtain ⟨q, c, e, hi, _⟩ := h
  injection e with e1 e2 e3
  obtain ⟨b, o, e4, hc⟩ := hi.some (by intro e; rw [e] at hk; simp at hk)
  exact ⟨b, o, by rw [e1, e4]⟩
set_option maxRecDepth 100000 in
set_option maxHeartbeats 4000000 in
theorem bytes_ref (a b t : Int) (p : ByteArray) (c : Int) (vs : Value) (s : List Dt) (w : World) (hd : DtsAt w vs s) (h0 : opE ((a, b), t, p, c, s) = 0) :
    Calls Tryd.prog 23 #[.agg #[.int .i64 a, .int .i64 b, .int .i64 t, .string p, .int .i64 c, vs]] w fun e w' => e = .returned (.string (bytesS ((a, b), t, p, c, s))) ∧ Below w.heap.size w w' := by
  obtain ⟨e1, e2, e3, e4⟩ := opE_zero.1 h0
  obtain ⟨g1, g2, g3, g4, g5⟩ := lawOf_zero.1 e4
  simp only at e1 e2 e3 g1 g2 g3 g4 g5
  obtain ⟨ha1, ha2, hb1, hb2⟩ := dotE_iff.1 e1
  have hpl := Bm.chk_pos e3
  rw [Om.len_eq] at hpl
  obtain ⟨hp2, hp12⟩ := hpl
  obtain ⟨ht1, ht4⟩ := e2
  have hdots : ∀ d ∈ s, dotE d.1 d.2 = 0 := (dotsE_zero.1 g5).1
  have HD : Hid (∀ d ∈ s, 1 ≤ d.1 ∧ d.1 ≤ 8 ∧ 1 ≤ d.2 ∧ d.2 ≤ 9999) := fun d hd => dotE_iff.1 (hdots d hd)
  obtain ⟨ps, cs, hvs, _⟩ := id hd
  obtain ⟨n, hn⟩ : ∃ n, n = s.length := ⟨_, rfl⟩
  rw [← hn] at hvs g4
  have HLN : Hid (s.length = n) := hn.symm
  subst hvs
  clear hn hdots g5 e1 e3 e4 h0
  obtain ⟨B, hBe⟩ : ∃ B, B = (w.alloc (.cells #[.int .i64 a, .int .i64 b, .int .i64 t, .string p, .int .i64 c, .slice ps n cs] 53)).heap.size := ⟨_, rfl⟩
  have HBB : Hid (B ≤ (w.alloc (.cells #[.int .i64 a, .int .i64 b, .int .i64 t, .string p, .int .i64 c, .slice ps n cs] 53)).heap.size) := Nat.le_of_eq hBe
  have HS : Hid (∀ W, Below B (w.alloc (.cells #[.int .i64 a, .int .i64 b, .int .i64 t, .string p, .int .i64 c, .slice ps n cs] 53)) W → Six W w.heap.size a b t p c (.slice ps n cs) ∧ DtsAt W (.slice ps n cs) s ∧ Below w.heap.size w W) := by
    intro W hb
    rw [hBe] at hb
    have hbw := bel_new (Below.refl _ w) hb
    exact ⟨(six_new w a b t p c (.slice ps n cs) 53).below hb, hd.below hbw, hbw⟩
  have hcv := fun w => run_bytes_of_string (P := Tryd.prog) w 9 92 5 p Tryd.underlying9 Tryd.underlying92 Tryd.underlying5
  have FT : Hid (t = ((u8 t).toNat : Int)) := (u8_val (by omega) (by omega)).symm
  have FA : Hid (a = ((u8 a).toNat : Int)) := (u8_val (by omega) (by omega)).symm
  have FP : Hid ((p.size : Int) = ((u8 (p.size : Int)).toNat : Int)) := (u8_val (by omega) (by omega)).symm
  have hpz : (p.size : Int) ≤ 12 := by omega
  have hpm : p.size ≤ maxLen := by unfold maxLen; omega
  clear hd hBe
  by_cases t1 : t = 1
  · subst t1
    obtain ⟨hc1, hc2⟩ := g1 rfl
    have FC : Hid (c = ((u8 c).toNat : Int)) := (u8_val (by omega) (by omega)).symm
    have hs0 := g3 (by decide)
    subst hs0
    clear g1 g2 g3
    go_enter Tryd.func23, Tryd.ntmps23
    go_wp2_with (first
      | (at_builtin; refine wpList_put1 _ rfl (.tmp 7) (.tmp 11) rfl B (.slice none 0 0) ([]) _ (u8 1) _ rfl (Row.nil _ _) _ rfl (by first | rfl | simp) FT.out (by simp) HBB.out ?_; intro v1 w1 hr1 hb1 hs1; obtain ⟨p1, N1, c1, rfl, _⟩ := hr1.shape; have HR1 : Hid (Row w1 B (.slice p1 N1 c1) ([] ++ [u8 1])) := hr1; have HK1 : Hid (Below B (w.alloc (.cells #[.int .i64 a, .int .i64 b, .int .i64 1, .string p, .int .i64 c, .slice ps n cs] 53)) w1) := hb1; obtain ⟨⟨d0, d1, d2, d3, d4, d5⟩, _, _⟩ := HS.out _ HK1.out; clear hr1 hb1)
      | (at_builtin; refine wpList_put1 _ rfl (.tmp 13) (.tmp 18) rfl B (.slice p1 N1 c1) ([] ++ [u8 1]) _ (u8 a) _ rfl HR1.out _ rfl (by first | rfl | simp) FA.out (by simp) hs1 ?_; intro v2 w2 hr2 hb2 hs2; obtain ⟨p2, N2, c2, rfl, _⟩ := hr2.shape; have HR2 : Hid (Row w2 B (.slice p2 N2 c2) ([] ++ [u8 1] ++ [u8 a])) := hr2; have HK2 : Hid (Below B (w.alloc (.cells #[.int .i64 a, .int .i64 b, .int .i64 1, .string p, .int .i64 c, .slice ps n cs] 53)) w2) := HK1.out.trans hb2; clear d0 d1 d2 d3 d4 d5; obtain ⟨⟨d0, d1, d2, d3, d4, d5⟩, _, _⟩ := HS.out _ HK2.out; clear hr2 hb2)
      | (go_at_call 54; refine (two_ref B (.slice p2 N2 c2) ([] ++ [u8 1] ++ [u8 a]) b w2 HR2.out (by omega) (by omega) (by simp) hs2).mono ?_; rintro e w3 ⟨v3, rfl, hr3, hb3, hs3⟩; obtain ⟨p3, N3, c3, rfl, _⟩ := hr3.shape; have HR3 : Hid (Row w3 B (.slice p3 N3 c3) ([] ++ [u8 1] ++ [u8 a] ++ b2 b)) := hr3; have HK3 : Hid (Below B (w.alloc (.cells #[.int .i64 a, .int .i64 b, .int .i64 1, .string p, .int .i64 c, .slice ps n cs] 53)) w3) := HK2.out.trans hb3; clear d0 d1 d2 d3 d4 d5; obtain ⟨⟨d0, d1, d2, d3, d4, d5⟩, _, _⟩ := HS.out _ HK3.out; clear hr3 hb3)
      | (at_builtin; refine wpList_put1 _ rfl (.tmp 25) (.tmp 30) rfl B (.slice p3 N3 c3) ([] ++ [u8 1] ++ [u8 a] ++ b2 b) _ (u8 (p.size : Int)) _ rfl HR3.out _ rfl (by first | rfl | simp) FP.out (by simp [b2_len]) hs3 ?_; intro v4 w4 hr4 hb4 hs4; obtain ⟨p4, N4, c4, rfl, _⟩ := hr4.shape; have HR4 : Hid (Row w4 B (.slice p4 N4 c4) ([] ++ [u8 1] ++ [u8 a] ++ b2 b ++ [u8 (p.size : Int)])) := hr4; have HK4 : Hid (Below B (w.alloc (.cells #[.int .i64 a, .int .i64 b, .int .i64 1, .string p, .int .i64 c, .slice ps n cs] 53)) w4) := HK3.out.trans hb4; clear d0 d1 d2 d3 d4 d5; obtain ⟨⟨d0, d1, d2, d3, d4, d5⟩, _, _⟩ := HS.out _ HK4.out; clear hr4 hb4)
      | (at_builtin; refine wpList_putS _ rfl (.tmp 32) (.tmp 35) rfl B (.slice p4 N4 c4) ([] ++ [u8 1] ++ [u8 a] ++ b2 b ++ [u8 (p.size : Int)]) p _ _ rfl HR4.out _ rfl (by first | rfl | simp) (by simp [b2_len]; omega) hs4 ?_; intro v5 w5 hr5 hb5 hs5; obtain ⟨p5, N5, c5, rfl, _⟩ := hr5.shape; have HR5 : Hid (Row w5 B (.slice p5 N5 c5) ([] ++ [u8 1] ++ [u8 a] ++ b2 b ++ [u8 (p.size : Int)] ++ p.toList)) := hr5; have HK5 : Hid (Below B (w.alloc (.cells #[.int .i64 a, .int .i64 b, .int .i64 1, .string p, .int .i64 c, .slice ps n cs] 53)) w5) := HK4.out.trans hb5; clear d0 d1 d2 d3 d4 d5; obtain ⟨⟨d0, d1, d2, d3, d4, d5⟩, _, _⟩ := HS.out _ HK5.out; clear hr5 hb5 hcv)
      | (at_builtin; refine wpList_put1 _ rfl (.tmp 40) (.tmp 44) rfl B (.slice p5 N5 c5) ([] ++ [u8 1] ++ [u8 a] ++ b2 b ++ [u8 (p.size : Int)] ++ p.toList) _ (u8 c) _ rfl HR5.out _ rfl (by first | rfl | simp) FC.out (by simp [b2_len, Om.len_eq]; omega) hs5 ?_; intro v6 w6 hr6 hb6 hs6; obtain ⟨p6, N6, c6, rfl, _⟩ := hr6.shape; have HR6 : Hid (Row w6 B (.slice p6 N6 c6) ([] ++ [u8 1] ++ [u8 a] ++ b2 b ++ [u8 (p.size : Int)] ++ p.toList ++ [u8 c])) := hr6; have HK6 : Hid (Below B (w.alloc (.cells #[.int .i64 a, .int .i64 b, .int .i64 1, .string p, .int .i64 c, .slice ps n cs] 53)) w6) := HK5.out.trans hb6; clear d0 d1 d2 d3 d4 d5; obtain ⟨⟨d0, d1, d2, d3, d4, d5⟩, _, _⟩ := HS.out _ HK6.out; clear hr6 hb6))
    obtain ⟨g, NN, cc, hvv, HNN, HC⟩ := Row.full HR6.out (by simp)
    injection hvv with hv1 hv2 hv3
    subst hv1 hv2 hv3
    obtain ⟨LL, hLL⟩ : ∃ LL, LL = [] ++ [u8 1] ++ [u8 a] ++ b2 b ++ [u8 (p.size : Int)] ++ p.toList ++ [u8 c] := ⟨_, rfl⟩
    have HLE : Hid (LL ++ [u8 (sumB LL % 253)] = bytesB ((a, b), 1, p, c, [])) := by
      unfold Hid; rw [hLL]; unfold bytesB frontB tailB b2
      simp
    have hNL : N6 ≤ 200 := by rw [HNN.out]; simp [b2_len, Om.len_eq]; omega
    rw [← hLL] at HR6 HNN HC
    clear hLL d0 d1 d2 d3 d4 d5 
    go_loop [5, 6] (fun sm i => ∃ (k : Nat) (S : Int), k ≤ N6 ∧ i = .int .i64 k ∧ sm = .int .i64 S ∧ 0 ≤ S ∧ S ≤ 255 * k ∧ Hid (S = sumB (LL.take k))) (fun _ i => N6 - (intOf i).toNat)
    case atStart => exact ⟨0, 0, by omega, rfl, rfl, by omega, by omega, rfl⟩
    case round =>
      obtain ⟨k, S, hk, rfl, rfl, hS0, hS1, HSS⟩ := hrel
      by_cases hlt : k < N6
      · have hltz : (k : Int) < N6 := by omega
        have hkL : k < LL.length := by rw [← HNN.out]; exact hlt
        have hcell := HC.out k hkL
        have HST := sum_step hkL
        obtain ⟨x, hx⟩ : ∃ x, x = LL.getD k 0 := ⟨_, rfl⟩
        rw [← hx] at hcell HST
        have hxb : x.toNat < 256 := UInt8.toNat_lt x
        obtain ⟨z, hz⟩ : ∃ z : Int, z = (x.toNat : Int) := ⟨_, rfl⟩
        rw [← hz] at hcell HST
        have hz0 : 0 ≤ z := by omega
        have hz1 : z ≤ 255 := by omega
        have HST2 : Hid (S + z = sumB (LL.take (k + 1))) := by unfold Hid; rw [HST, HSS.out]
        clear hx hz hxb HST hkL
        go_wp2_with fail
        go_round
        case rel => exact ⟨k + 1, S + z, by omega, by go_num, by go_num, by omega, by omega, HST2⟩
        case measure => simp [intOf]; omega
      · obtain rfl : k = N6 := by omega
        have HSE : Hid (S = sumB LL) := by
          have h9 := HSS.out
          rw [List.take_of_length_le (by rw [← HNN.out]; exact Nat.le_refl _)] at h9
          exact h9
        have FS : Hid (S % 253 = ((u8 (S % 253)).toNat : Int)) := (u8_val (by omega) (by omega)).symm
        have HLb : Hid (LL.length + 1 ≤ 1000000000) := by unfold Hid; rw [← HNN.out]; omega
        have hltz : ¬ (k : Int) < k := by omega
        go_wp2_with (at_builtin; refine wpList_put1 _ rfl (.tmp 94) (.tmp 98) rfl B (.slice (some ⟨g, 0, none⟩) k c6) LL _ (u8 (S % 253)) _ rfl HR6.out _ rfl (by first | rfl | simp) FS.out HLb.out hs6 ?_; intro v9 w9 hr9 hb9 hs9; have hcv9 := hr9.reads (by simp); obtain ⟨p9, N9, c9, rfl, _⟩ := hr9.shape; have HK9 : Hid (Below B (w.alloc (.cells #[.int .i64 a, .int .i64 b, .int .i64 1, .string p, .int .i64 c, .slice ps n cs] 53)) w9) := HK6.out.trans hb9; rw [HSE.out, HLE.out] at hcv9; obtain ⟨T9, hT9⟩ : ∃ T9 : ByteArray, T9 = ⟨(bytesB ((a, b), 1, p, c, [])).toArray⟩ := ⟨_, rfl⟩; rw [← hT9] at hcv9; have HT9 : Hid (T9 = ⟨(bytesB ((a, b), 1, p, c, [])).toArray⟩) := hT9; clear hT9 hr9 hb9)
        go_ret
        exact ⟨by rw [HT9.out]; rfl, (HS.out _ HK9.out).2.2⟩
  by_cases t4 : t = 4
  case neg =>
    have t1b : (t == 1) = false := by simpa using t1
    have t4b : (t == 4) = false := by simpa using t4
    have hs0 := g3 t4
    subst hs0
    have HT1 : Hid (¬ t = 1) := t1
    have HT4 : Hid (¬ t = 4) := t4
    clear g1 g2 g3 t1 t4
    go_enter Tryd.func23, Tryd.ntmps23
    go_wp2_with (first
      | (at_builtin; refine wpList_put1 _ rfl (.tmp 7) (.tmp 11) rfl B (.slice none 0 0) ([]) _ (u8 t) _ rfl (Row.nil _ _) _ rfl (by first | rfl | simp) FT.out (by simp) HBB.out ?_; intro v1 w1 hr1 hb1 hs1; obtain ⟨p1, N1, c1, rfl, _⟩ := hr1.shape; have HR1 : Hid (Row w1 B (.slice p1 N1 c1) ([] ++ [u8 t])) := hr1; have HK1 : Hid (Below B (w.alloc (.cells #[.int .i64 a, .int .i64 b, .int .i64 t, .string p, .int .i64 c, .slice ps n cs] 53)) w1) := hb1; obtain ⟨⟨d0, d1, d2, d3, d4, d5⟩, _, _⟩ := HS.out _ HK1.out; clear hr1 hb1)
      | (at_builtin; refine wpList_put1 _ rfl (.tmp 13) (.tmp 18) rfl B (.slice p1 N1 c1) ([] ++ [u8 t]) _ (u8 a) _ rfl HR1.out _ rfl (by first | rfl | simp) FA.out (by simp) hs1 ?_; intro v2 w2 hr2 hb2 hs2; obtain ⟨p2, N2, c2, rfl, _⟩ := hr2.shape; have HR2 : Hid (Row w2 B (.slice p2 N2 c2) ([] ++ [u8 t] ++ [u8 a])) := hr2; have HK2 : Hid (Below B (w.alloc (.cells #[.int .i64 a, .int .i64 b, .int .i64 t, .string p, .int .i64 c, .slice ps n cs] 53)) w2) := HK1.out.trans hb2; clear d0 d1 d2 d3 d4 d5; obtain ⟨⟨d0, d1, d2, d3, d4, d5⟩, _, _⟩ := HS.out _ HK2.out; clear hr2 hb2)
      | (go_at_call 54; refine (two_ref B (.slice p2 N2 c2) ([] ++ [u8 t] ++ [u8 a]) b w2 HR2.out (by omega) (by omega) (by simp) hs2).mono ?_; rintro e w3 ⟨v3, rfl, hr3, hb3, hs3⟩; obtain ⟨p3, N3, c3, rfl, _⟩ := hr3.shape; have HR3 : Hid (Row w3 B (.slice p3 N3 c3) ([] ++ [u8 t] ++ [u8 a] ++ b2 b)) := hr3; have HK3 : Hid (Below B (w.alloc (.cells #[.int .i64 a, .int .i64 b, .int .i64 t, .string p, .int .i64 c, .slice ps n cs] 53)) w3) := HK2.out.trans hb3; clear d0 d1 d2 d3 d4 d5; obtain ⟨⟨d0, d1, d2, d3, d4, d5⟩, _, _⟩ := HS.out _ HK3.out; clear hr3 hb3)
      | (at_builtin; refine wpList_put1 _ rfl (.tmp 25) (.tmp 30) rfl B (.slice p3 N3 c3) ([] ++ [u8 t] ++ [u8 a] ++ b2 b) _ (u8 (p.size : Int)) _ rfl HR3.out _ rfl (by first | rfl | simp) FP.out (by simp [b2_len]) hs3 ?_; intro v4 w4 hr4 hb4 hs4; obtain ⟨p4, N4, c4, rfl, _⟩ := hr4.shape; have HR4 : Hid (Row w4 B (.slice p4 N4 c4) ([] ++ [u8 t] ++ [u8 a] ++ b2 b ++ [u8 (p.size : Int)])) := hr4; have HK4 : Hid (Below B (w.alloc (.cells #[.int .i64 a, .int .i64 b, .int .i64 t, .string p, .int .i64 c, .slice ps n cs] 53)) w4) := HK3.out.trans hb4; clear d0 d1 d2 d3 d4 d5; obtain ⟨⟨d0, d1, d2, d3, d4, d5⟩, _, _⟩ := HS.out _ HK4.out; clear hr4 hb4)
      | (at_builtin; refine wpList_putS _ rfl (.tmp 32) (.tmp 35) rfl B (.slice p4 N4 c4) ([] ++ [u8 t] ++ [u8 a] ++ b2 b ++ [u8 (p.size : Int)]) p _ _ rfl HR4.out _ rfl (by first | rfl | simp) (by simp [b2_len]; omega) hs4 ?_; intro v5 w5 hr5 hb5 hs5; obtain ⟨p5, N5, c5, rfl, _⟩ := hr5.shape; have HR5 : Hid (Row w5 B (.slice p5 N5 c5) ([] ++ [u8 t] ++ [u8 a] ++ b2 b ++ [u8 (p.size : Int)] ++ p.toList)) := hr5; have HK5 : Hid (Below B (w.alloc (.cells #[.int .i64 a, .int .i64 b, .int .i64 t, .string p, .int .i64 c, .slice ps n cs] 53)) w5) := HK4.out.trans hb5; clear d0 d1 d2 d3 d4 d5; obtain ⟨⟨d0, d1, d2, d3, d4, d5⟩, _, _⟩ := HS.out _ HK5.out; clear hr5 hb5 hcv))
    obtain ⟨g, NN, cc, hvv, HNN, HC⟩ := Row.full HR5.out (by simp)
    injection hvv with hv1 hv2 hv3
    subst hv1 hv2 hv3
    obtain ⟨LL, hLL⟩ : ∃ LL, LL = [] ++ [u8 t] ++ [u8 a] ++ b2 b ++ [u8 (p.size : Int)] ++ p.toList := ⟨_, rfl⟩
    have HLE : Hid (LL ++ [u8 (sumB LL % 253)] = bytesB ((a, b), t, p, c, [])) := by
      unfold Hid; rw [hLL]; unfold bytesB frontB tailB b2
      simp [HT1.out, HT4.out]
    have hNL : N5 ≤ 200 := by rw [HNN.out]; simp [b2_len, Om.len_eq]; omega
    rw [← hLL] at HR5 HNN HC
    clear hLL d0 d1 d2 d3 d4 d5 
    go_loop [5, 6] (fun sm i => ∃ (k : Nat) (S : Int), k ≤ N5 ∧ i = .int .i64 k ∧ sm = .int .i64 S ∧ 0 ≤ S ∧ S ≤ 255 * k ∧ Hid (S = sumB (LL.take k))) (fun _ i => N5 - (intOf i).toNat)
    case atStart => exact ⟨0, 0, by omega, rfl, rfl, by omega, by omega, rfl⟩
    case round =>
      obtain ⟨k, S, hk, rfl, rfl, hS0, hS1, HSS⟩ := hrel
      by_cases hlt : k < N5
      · have hltz : (k : Int) < N5 := by omega
        have hkL : k < LL.length := by rw [← HNN.out]; exact hlt
        have hcell := HC.out k hkL
        have HST := sum_step hkL
        obtain ⟨x, hx⟩ : ∃ x, x = LL.getD k 0 := ⟨_, rfl⟩
        rw [← hx] at hcell HST
        have hxb : x.toNat < 256 := UInt8.toNat_lt x
        obtain ⟨z, hz⟩ : ∃ z : Int, z = (x.toNat : Int) := ⟨_, rfl⟩
        rw [← hz] at hcell HST
        have hz0 : 0 ≤ z := by omega
        have hz1 : z ≤ 255 := by omega
        have HST2 : Hid (S + z = sumB (LL.take (k + 1))) := by unfold Hid; rw [HST, HSS.out]
        clear hx hz hxb HST hkL
        go_wp2_with fail
        go_round
        case rel => exact ⟨k + 1, S + z, by omega, by go_num, by go_num, by omega, by omega, HST2⟩
        case measure => simp [intOf]; omega
      · obtain rfl : k = N5 := by omega
        have HSE : Hid (S = sumB LL) := by
          have h9 := HSS.out
          rw [List.take_of_length_le (by rw [← HNN.out]; exact Nat.le_refl _)] at h9
          exact h9
        have FS : Hid (S % 253 = ((u8 (S % 253)).toNat : Int)) := (u8_val (by omega) (by omega)).symm
        have HLb : Hid (LL.length + 1 ≤ 1000000000) := by unfold Hid; rw [← HNN.out]; omega
        have hltz : ¬ (k : Int) < k := by omega
        go_wp2_with (at_builtin; refine wpList_put1 _ rfl (.tmp 94) (.tmp 98) rfl B (.slice (some ⟨g, 0, none⟩) k c5) LL _ (u8 (S % 253)) _ rfl HR5.out _ rfl (by first | rfl | simp) FS.out HLb.out hs5 ?_; intro v9 w9 hr9 hb9 hs9; have hcv9 := hr9.reads (by simp); obtain ⟨p9, N9, c9, rfl, _⟩ := hr9.shape; have HK9 : Hid (Below B (w.alloc (.cells #[.int .i64 a, .int .i64 b, .int .i64 t, .string p, .int .i64 c, .slice ps n cs] 53)) w9) := HK5.out.trans hb9; rw [HSE.out, HLE.out] at hcv9; obtain ⟨T9, hT9⟩ : ∃ T9 : ByteArray, T9 = ⟨(bytesB ((a, b), t, p, c, [])).toArray⟩ := ⟨_, rfl⟩; rw [← hT9] at hcv9; have HT9 : Hid (T9 = ⟨(bytesB ((a, b), t, p, c, [])).toArray⟩) := hT9; clear hT9 hr9 hb9)
        go_ret
        exact ⟨by rw [HT9.out]; rfl, (HS.out _ HK9.out).2.2⟩
  · subst t4
    have FN : Hid ((n : Int) = ((u8 (n : Int)).toNat : Int)) := (u8_val (by omega) (by omega)).symm
    have hnz : (n : Int) ≤ 40 := by omega
    clear g1 g2 g3 t1
    go_enter Tryd.func23, Tryd.ntmps23
    go_wp2_with (first
      | (at_builtin; refine wpList_put1 _ rfl (.tmp 7) (.tmp 11) rfl B (.slice none 0 0) ([]) _ (u8 4) _ rfl (Row.nil _ _) _ rfl (by first | rfl | simp) FT.out (by simp) HBB.out ?_; intro v1 w1 hr1 hb1 hs1; obtain ⟨p1, N1, c1, rfl, _⟩ := hr1.shape; have HR1 : Hid (Row w1 B (.slice p1 N1 c1) ([] ++ [u8 4])) := hr1; have HK1 : Hid (Below B (w.alloc (.cells #[.int .i64 a, .int .i64 b, .int .i64 4, .string p, .int .i64 c, .slice ps n cs] 53)) w1) := hb1; obtain ⟨⟨d0, d1, d2, d3, d4, d5⟩, _, _⟩ := HS.out _ HK1.out; clear hr1 hb1)
      | (at_builtin; refine wpList_put1 _ rfl (.tmp 13) (.tmp 18) rfl B (.slice p1 N1 c1) ([] ++ [u8 4]) _ (u8 a) _ rfl HR1.out _ rfl (by first | rfl | simp) FA.out (by simp) hs1 ?_; intro v2 w2 hr2 hb2 hs2; obtain ⟨p2, N2, c2, rfl, _⟩ := hr2.shape; have HR2 : Hid (Row w2 B (.slice p2 N2 c2) ([] ++ [u8 4] ++ [u8 a])) := hr2; have HK2 : Hid (Below B (w.alloc (.cells #[.int .i64 a, .int .i64 b, .int .i64 4, .string p, .int .i64 c, .slice ps n cs] 53)) w2) := HK1.out.trans hb2; clear d0 d1 d2 d3 d4 d5; obtain ⟨⟨d0, d1, d2, d3, d4, d5⟩, _, _⟩ := HS.out _ HK2.out; clear hr2 hb2)
      | (go_at_call 54; refine (two_ref B (.slice p2 N2 c2) ([] ++ [u8 4] ++ [u8 a]) b w2 HR2.out (by omega) (by omega) (by simp) hs2).mono ?_; rintro e w3 ⟨v3, rfl, hr3, hb3, hs3⟩; obtain ⟨p3, N3, c3, rfl, _⟩ := hr3.shape; have HR3 : Hid (Row w3 B (.slice p3 N3 c3) ([] ++ [u8 4] ++ [u8 a] ++ b2 b)) := hr3; have HK3 : Hid (Below B (w.alloc (.cells #[.int .i64 a, .int .i64 b, .int .i64 4, .string p, .int .i64 c, .slice ps n cs] 53)) w3) := HK2.out.trans hb3; clear d0 d1 d2 d3 d4 d5; obtain ⟨⟨d0, d1, d2, d3, d4, d5⟩, _, _⟩ := HS.out _ HK3.out; clear hr3 hb3)
      | (at_builtin; refine wpList_put1 _ rfl (.tmp 25) (.tmp 30) rfl B (.slice p3 N3 c3) ([] ++ [u8 4] ++ [u8 a] ++ b2 b) _ (u8 (p.size : Int)) _ rfl HR3.out _ rfl (by first | rfl | simp) FP.out (by simp [b2_len]) hs3 ?_; intro v4 w4 hr4 hb4 hs4; obtain ⟨p4, N4, c4, rfl, _⟩ := hr4.shape; have HR4 : Hid (Row w4 B (.slice p4 N4 c4) ([] ++ [u8 4] ++ [u8 a] ++ b2 b ++ [u8 (p.size : Int)])) := hr4; have HK4 : Hid (Below B (w.alloc (.cells #[.int .i64 a, .int .i64 b, .int .i64 4, .string p, .int .i64 c, .slice ps n cs] 53)) w4) := HK3.out.trans hb4; clear d0 d1 d2 d3 d4 d5; obtain ⟨⟨d0, d1, d2, d3, d4, d5⟩, _, _⟩ := HS.out _ HK4.out; clear hr4 hb4)
      | (at_builtin; refine wpList_putS _ rfl (.tmp 32) (.tmp 35) rfl B (.slice p4 N4 c4) ([] ++ [u8 4] ++ [u8 a] ++ b2 b ++ [u8 (p.size : Int)]) p _ _ rfl HR4.out _ rfl (by first | rfl | simp) (by simp [b2_len]; omega) hs4 ?_; intro v5 w5 hr5 hb5 hs5; obtain ⟨p5, N5, c5, rfl, _⟩ := hr5.shape; have HR5 : Hid (Row w5 B (.slice p5 N5 c5) ([] ++ [u8 4] ++ [u8 a] ++ b2 b ++ [u8 (p.size : Int)] ++ p.toList)) := hr5; have HK5 : Hid (Below B (w.alloc (.cells #[.int .i64 a, .int .i64 b, .int .i64 4, .string p, .int .i64 c, .slice ps n cs] 53)) w5) := HK4.out.trans hb5; clear d0 d1 d2 d3 d4 d5; obtain ⟨⟨d0, d1, d2, d3, d4, d5⟩, _, _⟩ := HS.out _ HK5.out; clear hr5 hb5 hcv)
      | (at_builtin; refine wpList_put1 _ rfl (.tmp 49) (.tmp 54) rfl B (.slice p5 N5 c5) ([] ++ [u8 4] ++ [u8 a] ++ b2 b ++ [u8 (p.size : Int)] ++ p.toList) _ (u8 (n : Int)) _ rfl HR5.out _ rfl (by first | rfl | simp) FN.out (by simp [b2_len, Om.len_eq]; omega) hs5 ?_; intro v6 w6 hr6 hb6 hs6; obtain ⟨p6, N6, c6, rfl, _⟩ := hr6.shape; have HR6 : Hid (Row w6 B (.slice p6 N6 c6) ([] ++ [u8 4] ++ [u8 a] ++ b2 b ++ [u8 (p.size : Int)] ++ p.toList ++ [u8 (n : Int)])) := hr6; have HK6 : Hid (Below B (w.alloc (.cells #[.int .i64 a, .int .i64 b, .int .i64 4, .string p, .int .i64 c, .slice ps n cs] 53)) w6) := HK5.out.trans hb6; clear d0 d1 d2 d3 d4 d5; obtain ⟨⟨d0, d1, d2, d3, d4, d5⟩, _, _⟩ := HS.out _ HK6.out; clear hr6 hb6))
    obtain ⟨Q6, hQ6⟩ : ∃ Q, Q = [] ++ [u8 4] ++ [u8 a] ++ b2 b ++ [u8 (p.size : Int)] ++ p.toList ++ [u8 (n : Int)] := ⟨_, rfl⟩
    have HQ6 : Hid (Q6 = [] ++ [u8 4] ++ [u8 a] ++ b2 b ++ [u8 (p.size : Int)] ++ p.toList ++ [u8 (n : Int)]) := hQ6
    have HQL : Hid (Q6.length ≤ 30) := by rw [hQ6]; unfold Hid; simp [Om.len_eq, b2_len]; omega
    have HR6b : Hid (Row w6 B (.slice p6 N6 c6) (Q6 ++ seenB (s.take 0))) := by
      have h9 := HR6.out
      rw [← hQ6] at h9
      rw [show seenB (s.take 0) = [] from rfl, List.append_nil]; exact h9
    clear hQ6 HR6 d0 d1 d2 d3 d4 d5
    go_loopw [3, 4] (fun v i wr => ∃ (k : Nat), k ≤ n ∧ i = .int .i64 k ∧ (∃ P N C, v = .slice P N C) ∧ Hid (Row wr B v (Q6 ++ seenB (s.take k))) ∧ Hid (Below B (w.alloc (.cells #[.int .i64 a, .int .i64 b, .int .i64 4, .string p, .int .i64 c, .slice ps n cs] 53)) wr) ∧ B ≤ wr.heap.size) (fun _ i _ => n - (intOf i).toNat)
    case atStart => exact ⟨0, by omega, rfl, ⟨_, _, _, rfl⟩, HR6b, HK6, hs6⟩
    case round =>
      clear HR6b HK6 hs6
      obtain ⟨k, hk, rfl, ⟨p6, N6, c6, rfl⟩, HR6, HK6, hs6⟩ := hrel
      obtain ⟨⟨d0, d1, d2, d3, d4, d5⟩, hdd, _⟩ := HS.out _ HK6.out
      by_cases hlt : k < n
      · have hltz : (k : Int) < n := by omega
        have hks : k < s.length := by rw [HLN.out]; exact hlt
        obtain ⟨b0, o0, rfl⟩ := dts_some hdd hks
        have hx := dts_at hdd hks
        have HST := seen_step hks
        have HXD := HD.out _ (getD_mem hks)
        obtain ⟨x, hxe⟩ : ∃ x, x = s.getD k noneD := ⟨_, rfl⟩
        rw [← hxe] at hx HST HXD
        obtain ⟨x1, x2⟩ := x
        obtain ⟨f1, f2⟩ := hx
        simp only at f1 f2 HST HXD
        obtain ⟨hx1, hx2, hx3, hx4⟩ := HXD
        have FX : Hid (x1 = ((u8 x1).toNat : Int)) := (u8_val (by omega) (by omega)).symm
        have HLK : Hid ((Q6 ++ seenB (s.take k)).length ≤ 200) := by
          unfold Hid; rw [List.length_append, seenB_len, List.length_take]; have := HQL.out; omega
        have HST2 : Hid (Q6 ++ seenB (s.take (k + 1)) = (Q6 ++ seenB (s.take k)) ++ [u8 x1] ++ b2 x2) := by unfold Hid; rw [HST]; simp
        have HXE : Hid ((x1, x2) = s.getD k noneD) := hxe
        have HKS : Hid (k < s.length) := hks
        clear hxe HST hdd hks
        obtain ⟨Q7, hQ7⟩ : ∃ Q, Q = Q6 ++ seenB (s.take k) := ⟨_, rfl⟩
        rw [← hQ7] at HR6 HLK HST2
        have HL1 : Hid (Q7.length + 1 ≤ 1000000000) := by unfold Hid; have := HLK.out; omega
        have HL2 : Hid ((Q7 ++ [u8 x1]).length ≤ 1000000) := by unfold Hid; have := HLK.out; simp; omega
        clear hQ7
        go_wp2_with (first
          | (at_builtin; refine wpList_put1 _ rfl (.tmp 63) (.tmp 71) rfl B (.slice p6 N6 c6) Q7 _ (u8 x1) _ rfl HR6.out _ rfl (by first | rfl | simp) FX.out HL1.out hs6 ?_; intro v7 w7 hr7 hb7 hs7; obtain ⟨p7, N7, c7, rfl, _⟩ := hr7.shape; have HR7 : Hid (Row w7 B (.slice p7 N7 c7) (Q7 ++ [u8 x1])) := hr7; have HK7 : Hid (Below B (w.alloc (.cells #[.int .i64 a, .int .i64 b, .int .i64 4, .string p, .int .i64 c, .slice (some ⟨b0, o0, none⟩) n cs] 53)) w7) := HK6.out.trans hb7; clear d0 d1 d2 d3 d4 d5; obtain ⟨⟨d0, d1, d2, d3, d4, d5⟩, hd7, _⟩ := HS.out _ HK7.out; have f34 := dts_at hd7 HKS.out; rw [← HXE.out] at f34; obtain ⟨f3, f4⟩ := f34; simp only at f3 f4; clear hr7 hb7 f1 f2 hd7)
          | (go_at_call 54; refine (two_ref B (.slice p7 N7 c7) (Q7 ++ [u8 x1]) x2 w7 HR7.out (by omega) (by omega) HL2.out hs7).mono ?_; rintro e w8 ⟨v8, rfl, hr8, hb8, hs8⟩; obtain ⟨p8, N8, c8, rfl, _⟩ := hr8.shape; have HR8 : Hid (Row w8 B (.slice p8 N8 c8) ((Q7 ++ [u8 x1]) ++ b2 x2)) := hr8; have HK8 : Hid (Below B (w.alloc (.cells #[.int .i64 a, .int .i64 b, .int .i64 4, .string p, .int .i64 c, .slice (some ⟨b0, o0, none⟩) n cs] 53)) w8) := HK7.out.trans hb8; clear hr8 hb8))
        rw [← HST2.out] at HR8
        go_roundw
        case rel => exact ⟨k + 1, by omega, by go_num, ⟨_, _, _, rfl⟩, HR8, HK8, hs8⟩
        case measure => simp [intOf]; omega
      · obtain rfl : n = k := by omega
        have hltz : ¬ (n : Int) < n := by omega
        rw [List.take_of_length_le (by rw [HLN.out]; exact Nat.le_refl _)] at HR6
        clear hlt hk
        go_wp2_with fail
        obtain ⟨g, NN, cc, hvv, HNN, HC⟩ := Row.full HR6.out (by rw [HQ6.out]; simp)
        injection hvv with hv1 hv2 hv3
        subst hv1 hv2 hv3
        obtain ⟨LL, hLL⟩ : ∃ LL, LL = Q6 ++ seenB s := ⟨_, rfl⟩
        have HLE : Hid (LL ++ [u8 (sumB LL % 253)] = bytesB ((a, b), 4, p, c, s)) := by
          unfold Hid; rw [hLL, HQ6.out]; unfold bytesB frontB tailB b2
          simp [HLN.out]
        have hNL : N6 ≤ 200 := by rw [HNN.out]; rw [List.length_append, seenB_len, HLN.out]; have := HQL.out; omega
        rw [← hLL] at HR6 HNN HC
        clear hLL d0 d1 d2 d3 d4 d5 
        go_loop [5, 6] (fun sm i => ∃ (k : Nat) (S : Int), k ≤ N6 ∧ i = .int .i64 k ∧ sm = .int .i64 S ∧ 0 ≤ S ∧ S ≤ 255 * k ∧ Hid (S = sumB (LL.take k))) (fun _ i => N6 - (intOf i).toNat)
        case atStart => exact ⟨0, 0, by omega, rfl, rfl, by omega, by omega, rfl⟩
        case round =>
          obtain ⟨k, S, hk, rfl, rfl, hS0, hS1, HSS⟩ := hrel
          by_cases hlt : k < N6
          · have hltz : (k : Int) < N6 := by omega
            have hkL : k < LL.length := by rw [← HNN.out]; exact hlt
            have hcell := HC.out k hkL
            have HST := sum_step hkL
            obtain ⟨x, hx⟩ : ∃ x, x = LL.getD k 0 := ⟨_, rfl⟩
            rw [← hx] at hcell HST
            have hxb : x.toNat < 256 := UInt8.toNat_lt x
            obtain ⟨z, hz⟩ : ∃ z : Int, z = (x.toNat : Int) := ⟨_, rfl⟩
            rw [← hz] at hcell HST
            have hz0 : 0 ≤ z := by omega
            have hz1 : z ≤ 255 := by omega
            have HST2 : Hid (S + z = sumB (LL.take (k + 1))) := by unfold Hid; rw [HST, HSS.out]
            clear hx hz hxb HST hkL
            go_wp2_with fail
            go_round
            case rel => exact ⟨k + 1, S + z, by omega, by go_num, by go_num, by omega, by omega, HST2⟩
            case measure => simp [intOf]; omega
          · obtain rfl : k = N6 := by omega
            have HSE : Hid (S = sumB LL) := by
              have h9 := HSS.out
              rw [List.take_of_length_le (by rw [← HNN.out]; exact Nat.le_refl _)] at h9
              exact h9
            have FS : Hid (S % 253 = ((u8 (S % 253)).toNat : Int)) := (u8_val (by omega) (by omega)).symm
            have HLb : Hid (LL.length + 1 ≤ 1000000000) := by unfold Hid; rw [← HNN.out]; omega
            have hltz : ¬ (k : Int) < k := by omega
            go_wp2_with (at_builtin; refine wpList_put1 _ rfl (.tmp 94) (.tmp 98) rfl B (.slice (some ⟨g, 0, none⟩) k c6) LL _ (u8 (S % 253)) _ rfl HR6.out _ rfl (by first | rfl | simp) FS.out HLb.out hs6 ?_; intro v9 w9 hr9 hb9 hs9; have hcv9 := hr9.reads (by simp); obtain ⟨p9, N9, c9, rfl, _⟩ := hr9.shape; have HK9 : Hid (Below B (w.alloc (.cells #[.int .i64 a, .int .i64 b, .int .i64 4, .string p, .int .i64 c, .slice ps n cs] 53)) w9) := HK6.out.trans hb9; rw [HSE.out, HLE.out] at hcv9; obtain ⟨T9, hT9⟩ : ∃ T9 : ByteArray, T9 = ⟨(bytesB ((a, b), 4, p, c, s)).toArray⟩ := ⟨_, rfl⟩; rw [← hT9] at hcv9; have HT9 : Hid (T9 = ⟨(bytesB ((a, b), 4, p, c, s)).toArray⟩) := hT9; clear hT9 hr9 hb9)
            go_ret
            exact ⟨by rw [HT9.out]; rfl, (HS.out _ HK9.out).2.2⟩

end Oe
end Go.Proofs.YtcmoajlcmeimiaaDoor
