import Derived.Test.YtpoijhfojdmdpaaGreatDoorJ7
import Derived.Test.YtpoijhfojdmdpaaGreatDoorK3
/- What the reference's two and number answer: two bytes more behind a row, two bytes of a text. -/
namespace Go.Proofs.YtpoijhfojdmdpaaGreatDoor
namespace Od
set_option linter.unusedVariables false
open Go.ChangeShapes Go.WideShapes Go.ChangeAt Go.RowKit Cm Ka Kb Na Om Oa Oz Oc Og
open La (bel bel_drew errV_zero errV_ne own_ge own_grow own_below)

set_option maxHeartbeats 1000000 in
set_option maxRecDepth 100000 in
theorem two_ref (B : Nat) (v : Value) (l : List UInt8) (n : Int) (w : World) (hv : Row w B v l) (hn0 : 0 ≤ n) (hn1 : n ≤ 65535) (hl : l.length ≤ 1000000) (hB : B ≤ w.heap.size) :
    Calls Tryz.prog 33 #[v, .int .i64 n] w fun e w' => ∃ v', e = .returned v' ∧ Row w' B v' (l ++ b2 n) ∧ Below B w w' ∧ B ≤ w'.heap.size := by
  obtain ⟨p, N, c, rfl, _⟩ := hv.shape
  have HR : Hid (Row w B (.slice p N c) l) := hv
  have HL : Hid (l.length + 1 ≤ 1000000000) := by unfold Hid; omega
  have HL2 : Hid (∀ c : UInt8, (l ++ [c]).length + 1 ≤ 1000000000) := fun c => by simp; omega
  have HA : Hid (n / 256 = ((u8 (n / 256)).toNat : Int)) := (u8_val (by omega) (by omega)).symm
  have HC : Hid (n % 256 = ((u8 (n % 256)).toNat : Int)) := (u8_val (by omega) (by omega)).symm
  have HE : Hid (∀ x y : UInt8, (l ++ [x]) ++ [y] = l ++ [x, y]) := fun x y => by simp
  clear hv hl
  go_enter Tryz.func33, Tryz.ntmps33
  go_wp2_with (first
    | (at_builtin; refine wpList_put1 w rfl (.tmp 5) (.tmp 9) rfl B (.slice p N c) l _ (u8 (n / 256)) _ rfl HR.out _ rfl rfl HA.out HL.out hB ?_; intro v1 w1 hr1 hb1 hs1; obtain ⟨p1, N1, c1, rfl, _⟩ := hr1.shape; have HR1 : Hid (Row w1 B (.slice p1 N1 c1) (l ++ [u8 (n / 256)])) := hr1; have HB1 : Hid (Below B w w1) := hb1; clear hr1 hb1)
    | (at_builtin; refine wpList_put1 w1 rfl (.tmp 11) (.tmp 15) rfl B (.slice p1 N1 c1) (l ++ [u8 (n / 256)]) _ (u8 (n % 256)) _ rfl HR1.out _ rfl rfl HC.out (HL2.out _) hs1 ?_; intro v2 w2 hr2 hb2 hs2; have HR2 : Hid (Row w2 B v2 ((l ++ [u8 (n / 256)]) ++ [u8 (n % 256)])) := hr2; have HB2 : Hid (Below B w w2) := HB1.out.trans hb2; clear hr2 hb2))
  go_ret
  exact ⟨_, rfl, by have := HR2.out; rw [HE.out] at this; exact this, HB2.out, hs2⟩

set_option maxHeartbeats 1000000 in
theorem number_ref (s : ByteArray) (i : Nat) (w : World) (hi : i + 1 < s.size) (hs : s.size ≤ maxLen) :
    Calls Tryz.prog 62 #[.string s, .int .i64 i] w fun e w' => e = .returned (.int .i64 (numAt s.toList i)) ∧ Below w.heap.size w w' := by
  have hm := hs
  unfold maxLen at hm
  have h1 : i < s.size := by omega
  obtain ⟨j, hj⟩ : ∃ j, j = i + 1 := ⟨_, rfl⟩
  have h2 : j < s.size := by omega
  have HN : Hid (((numAt s.toList i : Nat) : Int) = (s[i].toNat : Int) * 256 + (s[j].toNat : Int)) := by
    subst hj; unfold Hid numAt; rw [at_list s i h1, at_list s (i + 1) hi]; omega
  rw [HN.out]
  have hb1 : s[i].toNat < 256 := UInt8.toNat_lt _
  have hb2 : s[j].toNat < 256 := UInt8.toNat_lt _
  have hw1 : IntKind.i64.wrap ((i : Int) + 1) = (j : Int) := by rw [IntKind.wrap_i64]; omega
  have hw4 : IntKind.i64.wrap (s[i].toNat : Int) = (s[i].toNat : Int) := by rw [IntKind.wrap_i64]; omega
  have hw5 : IntKind.i64.wrap (s[j].toNat : Int) = (s[j].toNat : Int) := by rw [IntKind.wrap_i64]; omega
  have hw2 : IntKind.i64.wrap ((s[i].toNat : Int) * 256) = (s[i].toNat : Int) * 256 := by rw [IntKind.wrap_i64]; omega
  have hw3 : IntKind.i64.wrap ((s[i].toNat : Int) * 256 + (s[j].toNat : Int)) = (s[i].toNat : Int) * 256 + (s[j].toNat : Int) := by rw [IntKind.wrap_i64]; omega
  clear hj hi
  go_enter Tryz.func62, Tryz.ntmps62
  go_wp2_with fail
  go_quiet (fail)
  go_wp2_with fail
  go_ret
  exact ⟨rfl, bel_drew (Below.refl _ _) _⟩

end Od
end Go.Proofs.YtpoijhfojdmdpaaGreatDoor
/- What the reference's Bytes answers, of an op that is right. -/
namespace Go.Proofs.YtpoijhfojdmdpaaGreatDoor
namespace Oe
set_option linter.unusedVariables false
open Go.ChangeShapes Go.WideShapes Go.ChangeAt Go.RowKit Cm Ka Kb Na Om Oa Oz Oc Od
open La (bel bel_drew errV_zero errV_ne own_ge own_grow own_below)

theorem Row.full {w : World} {B : Nat} {v : Value} {l : List UInt8} (h : Row w B v l) (hl : l ≠ []) : ∃ g N c, v = .slice (some ⟨g, 0, none⟩) N c ∧ Hid (N = l.length) ∧ Hid (∀ j, j < l.length → w.cell? ⟨g, j, none⟩ = some (.int .u8 ((l.getD j 0).toNat : Int))) := by
  obtain ⟨p, c, rfl, h1, h2⟩ := h.slice
  obtain ⟨g, rfl, _⟩ := h1 hl
  exact ⟨g, _, c, rfl, rfl, h2 g rfl⟩
theorem sum_step {l : List UInt8} {k : Nat} (hk : k < l.length) : sumB (l.take (k + 1)) = sumB (l.take k) + ((l.getD k 0).toNat : Int) := by
  rw [List.take_add_one, List.getElem?_eq_getElem hk, List.getD_eq_getElem?_getD, List.getElem?_eq_getElem hk]
  exact sumB_snoc _ _
theorem seen_step {s : List Dt} {k : Nat} (hk : k < s.length) : seenB (s.take (k + 1)) = seenB (s.take k) ++ (u8 (s.getD k noneD).1 :: b2 (s.getD k noneD).2) := by
  rw [List.take_add_one, List.getElem?_eq_getElem hk, List.getD_eq_getElem?_getD, List.getElem?_eq_getElem hk, seenB_append]
  show _ ++ seenB [s[k]] = _
  unfold seenB; simp
theorem dts_at {W : World} {b0 o0 n cs : Nat} {s : List Dt} {k : Nat} (h : DtsAt W (.slice (some ⟨b0, o0, none⟩) n cs) s) (hk : k < s.length) : DAt W b0 o0 k (s.getD k noneD) := by
  obtain ⟨q, c, e, hi, _⟩ := h
  injection e with e1 e2 e3
  obtain ⟨b, o, e4, hc⟩ := hi.some (by intro e; rw [e] at hk; simp at hk)
  rw [← e1] at e4
  injection e4 with e4
  injection e4 with e5 e6
  subst e5 e6
  exact hc k hk
theorem dts_some {W : World} {ps : Option Addr} {n cs : Nat} {s : List Dt} {k : Nat} (h : DtsAt W (.slice ps n cs) s) (hk : k < s.length) : ∃ b o, ps = some ⟨b, o, none⟩ := by
  obtain ⟨q, c, e, hi, _⟩ := h
  injection e with e1 e2 e3
  obtain ⟨b, o, e4, hc⟩ := hi.some (by intro e; rw [e] at hk; simp at hk)
  exact ⟨b, o, by rw [e1, e4]⟩
set_option maxRecDepth 100000 in
set_option maxHeartbeats 4000000 in
theorem bytes_ref (a b t : Int) (p : ByteArray) (c : Int) (vs : Value) (s : List Dt) (w : World) (hd : DtsAt w vs s) (h0 : opE ((a, b), t, p, c, s) = 0) :
    Calls Tryz.prog 34 #[.agg #[.int .i64 a, .int .i64 b, .int .i64 t, .string p, .int .i64 c, vs]] w fun e w' => e = .returned (.string (bytesS ((a, b), t, p, c, s))) ∧ Below w.heap.size w w' := by
  obtain ⟨e1, e2, e3, e4⟩ := opE_zero.1 h0
  obtain ⟨g1, g2, g3, g4, g5⟩ := lawOf_zero.1 e4
  simp only at e1 e2 e3 g1 g2 g3 g4 g5
  obtain ⟨ha1, ha2, hb1, hb2⟩ := dotE_iff.1 e1
  have hpl := Bm.chk_pos e3
  rw [Om.len_eq] at hpl
  obtain ⟨hp2, hp12⟩ := hpl
  obtain ⟨ht1, ht4⟩ := e2
  have hdots : ∀ d ∈ s, dotE d.1 d.2 = 0 := (dotsE_zero.1 g5).1
  have HD : Hid (∀ d ∈ s, 1 ≤ d.1 ∧ d.1 ≤ 8 ∧ 1 ≤ d.2 ∧ d.2 ≤ 9999) := fun d hd => dotE_iff.1 (hdots d hd)
  obtain ⟨ps, cs, hvs, _⟩ := id hd
  obtain ⟨n, hn⟩ : ∃ n, n = s.length := ⟨_, rfl⟩
  rw [← hn] at hvs g4
  have HLN : Hid (s.length = n) := hn.symm
  subst hvs
  clear hn hdots g5 e1 e3 e4 h0
  obtain ⟨B, hBe⟩ : ∃ B, B = (w.alloc (.cells #[.int .i64 a, .int .i64 b, .int .i64 t, .string p, .int .i64 c, .slice ps n cs] 30)).heap.size := ⟨_, rfl⟩
  have HBB : Hid (B ≤ (w.alloc (.cells #[.int .i64 a, .int .i64 b, .int .i64 t, .string p, .int .i64 c, .slice ps n cs] 30)).heap.size) := Nat.le_of_eq hBe
  have HS : Hid (∀ W, Below B (w.alloc (.cells #[.int .i64 a, .int .i64 b, .int .i64 t, .string p, .int .i64 c, .slice ps n cs] 30)) W → Six W w.heap.size a b t p c (.slice ps n cs) ∧ DtsAt W (.slice ps n cs) s ∧ Below w.heap.size w W) := by
    intro W hb
    rw [hBe] at hb
    have hbw := bel_new (Below.refl _ w) hb
    exact ⟨(six_new w a b t p c (.slice ps n cs) 30).below hb, hd.below hbw, hbw⟩
  have hcv := fun w => run_bytes_of_string (P := Tryz.prog) w 9 76 5 p Tryz.underlying9 Tryz.underlying76 Tryz.underlying5
  have FT : Hid (t = ((u8 t).toNat : Int)) := (u8_val (by omega) (by omega)).symm
  have FA : Hid (a = ((u8 a).toNat : Int)) := (u8_val (by omega) (by omega)).symm
  have FP : Hid ((p.size : Int) = ((u8 (p.size : Int)).toNat : Int)) := (u8_val (by omega) (by omega)).symm
  have hpz : (p.size : Int) ≤ 12 := by omega
  have hpm : p.size ≤ maxLen := by unfold maxLen; omega
  clear hd hBe
  by_cases t1 : t = 1
  · subst t1
    obtain ⟨hc1, hc2⟩ := g1 rfl
    have FC : Hid (c = ((u8 c).toNat : Int)) := (u8_val (by omega) (by omega)).symm
    have hs0 := g3 (by decide)
    subst hs0
    clear g1 g2 g3
    go_enter Tryz.func34, Tryz.ntmps34
    go_wp2_with (first
      | (at_builtin; refine wpList_put1 _ rfl (.tmp 7) (.tmp 11) rfl B (.slice none 0 0) ([]) _ (u8 1) _ rfl (Row.nil _ _) _ rfl (by first | rfl | simp) FT.out (by simp) HBB.out ?_; intro v1 w1 hr1 hb1 hs1; obtain ⟨p1, N1, c1, rfl, _⟩ := hr1.shape; have HR1 : Hid (Row w1 B (.slice p1 N1 c1) ([] ++ [u8 1])) := hr1; have HK1 : Hid (Below B (w.alloc (.cells #[.int .i64 a, .int .i64 b, .int .i64 1, .string p, .int .i64 c, .slice ps n cs] 30)) w1) := hb1; obtain ⟨⟨d0, d1, d2, d3, d4, d5⟩, _, _⟩ := HS.out _ HK1.out; clear hr1 hb1)
      | (at_builtin; refine wpList_put1 _ rfl (.tmp 13) (.tmp 18) rfl B (.slice p1 N1 c1) ([] ++ [u8 1]) _ (u8 a) _ rfl HR1.out _ rfl (by first | rfl | simp) FA.out (by simp) hs1 ?_; intro v2 w2 hr2 hb2 hs2; obtain ⟨p2, N2, c2, rfl, _⟩ := hr2.shape; have HR2 : Hid (Row w2 B (.slice p2 N2 c2) ([] ++ [u8 1] ++ [u8 a])) := hr2; have HK2 : Hid (Below B (w.alloc (.cells #[.int .i64 a, .int .i64 b, .int .i64 1, .string p, .int .i64 c, .slice ps n cs] 30)) w2) := HK1.out.trans hb2; clear d0 d1 d2 d3 d4 d5; obtain ⟨⟨d0, d1, d2, d3, d4, d5⟩, _, _⟩ := HS.out _ HK2.out; clear hr2 hb2)
      | (go_at_call 33; refine (two_ref B (.slice p2 N2 c2) ([] ++ [u8 1] ++ [u8 a]) b w2 HR2.out (by omega) (by omega) (by simp) hs2).mono ?_; rintro e w3 ⟨v3, rfl, hr3, hb3, hs3⟩; obtain ⟨p3, N3, c3, rfl, _⟩ := hr3.shape; have HR3 : Hid (Row w3 B (.slice p3 N3 c3) ([] ++ [u8 1] ++ [u8 a] ++ b2 b)) := hr3; have HK3 : Hid (Below B (w.alloc (.cells #[.int .i64 a, .int .i64 b, .int .i64 1, .string p, .int .i64 c, .slice ps n cs] 30)) w3) := HK2.out.trans hb3; clear d0 d1 d2 d3 d4 d5; obtain ⟨⟨d0, d1, d2, d3, d4, d5⟩, _, _⟩ := HS.out _ HK3.out; clear hr3 hb3)
      | (at_builtin; refine wpList_put1 _ rfl (.tmp 25) (.tmp 30) rfl B (.slice p3 N3 c3) ([] ++ [u8 1] ++ [u8 a] ++ b2 b) _ (u8 (p.size : Int)) _ rfl HR3.out _ rfl (by first | rfl | simp) FP.out (by simp [b2_len]) hs3 ?_; intro v4 w4 hr4 hb4 hs4; obtain ⟨p4, N4, c4, rfl, _⟩ := hr4.shape; have HR4 : Hid (Row w4 B (.slice p4 N4 c4) ([] ++ [u8 1] ++ [u8 a] ++ b2 b ++ [u8 (p.size : Int)])) := hr4; have HK4 : Hid (Below B (w.alloc (.cells #[.int .i64 a, .int .i64 b, .int .i64 1, .string p, .int .i64 c, .slice ps n cs] 30)) w4) := HK3.out.trans hb4; clear d0 d1 d2 d3 d4 d5; obtain ⟨⟨d0, d1, d2, d3, d4, d5⟩, _, _⟩ := HS.out _ HK4.out; clear hr4 hb4)
      | (at_builtin; refine wpList_putS _ rfl (.tmp 32) (.tmp 35) rfl B (.slice p4 N4 c4) ([] ++ [u8 1] ++ [u8 a] ++ b2 b ++ [u8 (p.size : Int)]) p _ _ rfl HR4.out _ rfl (by first | rfl | simp) (by simp [b2_len]; omega) hs4 ?_; intro v5 w5 hr5 hb5 hs5; obtain ⟨p5, N5, c5, rfl, _⟩ := hr5.shape; have HR5 : Hid (Row w5 B (.slice p5 N5 c5) ([] ++ [u8 1] ++ [u8 a] ++ b2 b ++ [u8 (p.size : Int)] ++ p.toList)) := hr5; have HK5 : Hid (Below B (w.alloc (.cells #[.int .i64 a, .int .i64 b, .int .i64 1, .string p, .int .i64 c, .slice ps n cs] 30)) w5) := HK4.out.trans hb5; clear d0 d1 d2 d3 d4 d5; obtain ⟨⟨d0, d1, d2, d3, d4, d5⟩, _, _⟩ := HS.out _ HK5.out; clear hr5 hb5 hcv)
      | (at_builtin; refine wpList_put1 _ rfl (.tmp 40) (.tmp 44) rfl B (.slice p5 N5 c5) ([] ++ [u8 1] ++ [u8 a] ++ b2 b ++ [u8 (p.size : Int)] ++ p.toList) _ (u8 c) _ rfl HR5.out _ rfl (by first | rfl | simp) FC.out (by simp [b2_len, Om.len_eq]; omega) hs5 ?_; intro v6 w6 hr6 hb6 hs6; obtain ⟨p6, N6, c6, rfl, _⟩ := hr6.shape; have HR6 : Hid (Row w6 B (.slice p6 N6 c6) ([] ++ [u8 1] ++ [u8 a] ++ b2 b ++ [u8 (p.size : Int)] ++ p.toList ++ [u8 c])) := hr6; have HK6 : Hid (Below B (w.alloc (.cells #[.int .i64 a, .int .i64 b, .int .i64 1, .string p, .int .i64 c, .slice ps n cs] 30)) w6) := HK5.out.trans hb6; clear d0 d1 d2 d3 d4 d5; obtain ⟨⟨d0, d1, d2, d3, d4, d5⟩, _, _⟩ := HS.out _ HK6.out; clear hr6 hb6))
    obtain ⟨g, NN, cc, hvv, HNN, HC⟩ := Row.full HR6.out (by simp)
    injection hvv with hv1 hv2 hv3
    subst hv1 hv2 hv3
    obtain ⟨LL, hLL⟩ : ∃ LL, LL = [] ++ [u8 1] ++ [u8 a] ++ b2 b ++ [u8 (p.size : Int)] ++ p.toList ++ [u8 c] := ⟨_, rfl⟩
    have HLE : Hid (LL ++ [u8 (sumB LL % 253)] = bytesB ((a, b), 1, p, c, [])) := by
      unfold Hid; rw [hLL]; unfold bytesB frontB tailB b2
      simp
    have hNL : N6 ≤ 200 := by rw [HNN.out]; simp [b2_len, Om.len_eq]; omega
    rw [← hLL] at HR6 HNN HC
    clear hLL d0 d1 d2 d3 d4 d5 
    go_loop [5, 6] (fun sm i => ∃ (k : Nat) (S : Int), k ≤ N6 ∧ i = .int .i64 k ∧ sm = .int .i64 S ∧ 0 ≤ S ∧ S ≤ 255 * k ∧ Hid (S = sumB (LL.take k))) (fun _ i => N6 - (intOf i).toNat)
    case atStart => exact ⟨0, 0, by omega, rfl, rfl, by omega, by omega, rfl⟩
    case round =>
      obtain ⟨k, S, hk, rfl, rfl, hS0, hS1, HSS⟩ := hrel
      by_cases hlt : k < N6
      · have hltz : (k : Int) < N6 := by omega
        have hkL : k < LL.length := by rw [← HNN.out]; exact hlt
        have hcell := HC.out k hkL
        have HST := sum_step hkL
        obtain ⟨x, hx⟩ : ∃ x, x = LL.getD k 0 := ⟨_, rfl⟩
        rw [← hx] at hcell HST
        have hxb : x.toNat < 256 := UInt8.toNat_lt x
        obtain ⟨z, hz⟩ : ∃ z : Int, z = (x.toNat : Int) := ⟨_, rfl⟩
        rw [← hz] at hcell HST
        have hz0 : 0 ≤ z := by omega
        have hz1 : z ≤ 255 := by omega
        have HST2 : Hid (S + z = sumB (LL.take (k + 1))) := by unfold Hid; rw [HST, HSS.out]
        clear hx hz hxb HST hkL
        go_wp2_with fail
        go_round
        case rel => exact ⟨k + 1, S + z, by omega, by go_num, by go_num, by omega, by omega, HST2⟩
        case measure => simp [intOf]; omega
      · obtain rfl : k = N6 := by omega
        have HSE : Hid (S = sumB LL) := by
          have h9 := HSS.out
          rw [List.take_of_length_le (by rw [← HNN.out]; exact Nat.le_refl _)] at h9
          exact h9
        have FS : Hid (S % 253 = ((u8 (S % 253)).toNat : Int)) := (u8_val (by omega) (by omega)).symm
        have HLb : Hid (LL.length + 1 ≤ 1000000000) := by unfold Hid; rw [← HNN.out]; omega
        have hltz : ¬ (k : Int) < k := by omega
        go_wp2_with (at_builtin; refine wpList_put1 _ rfl (.tmp 94) (.tmp 98) rfl B (.slice (some ⟨g, 0, none⟩) k c6) LL _ (u8 (S % 253)) _ rfl HR6.out _ rfl (by first | rfl | simp) FS.out HLb.out hs6 ?_; intro v9 w9 hr9 hb9 hs9; have hcv9 := hr9.reads (by simp); obtain ⟨p9, N9, c9, rfl, _⟩ := hr9.shape; have HK9 : Hid (Below B (w.alloc (.cells #[.int .i64 a, .int .i64 b, .int .i64 1, .string p, .int .i64 c, .slice ps n cs] 30)) w9) := HK6.out.trans hb9; rw [HSE.out, HLE.out] at hcv9; obtain ⟨T9, hT9⟩ : ∃ T9 : ByteArray, T9 = ⟨(bytesB ((a, b), 1, p, c, [])).toArray⟩ := ⟨_, rfl⟩; rw [← hT9] at hcv9; have HT9 : Hid (T9 = ⟨(bytesB ((a, b), 1, p, c, [])).toArray⟩) := hT9; clear hT9 hr9 hb9)
        go_ret
        exact ⟨by rw [HT9.out]; rfl, (HS.out _ HK9.out).2.2⟩
  by_cases t4 : t = 4
  case neg =>
    have t1b : (t == 1) = false := by simpa using t1
    have t4b : (t == 4) = false := by simpa using t4
    have hs0 := g3 t4
    subst hs0
    have HT1 : Hid (¬ t = 1) := t1
    have HT4 : Hid (¬ t = 4) := t4
    clear g1 g2 g3 t1 t4
    go_enter Tryz.func34, Tryz.ntmps34
    go_wp2_with (first
      | (at_builtin; refine wpList_put1 _ rfl (.tmp 7) (.tmp 11) rfl B (.slice none 0 0) ([]) _ (u8 t) _ rfl (Row.nil _ _) _ rfl (by first | rfl | simp) FT.out (by simp) HBB.out ?_; intro v1 w1 hr1 hb1 hs1; obtain ⟨p1, N1, c1, rfl, _⟩ := hr1.shape; have HR1 : Hid (Row w1 B (.slice p1 N1 c1) ([] ++ [u8 t])) := hr1; have HK1 : Hid (Below B (w.alloc (.cells #[.int .i64 a, .int .i64 b, .int .i64 t, .string p, .int .i64 c, .slice ps n cs] 30)) w1) := hb1; obtain ⟨⟨d0, d1, d2, d3, d4, d5⟩, _, _⟩ := HS.out _ HK1.out; clear hr1 hb1)
      | (at_builtin; refine wpList_put1 _ rfl (.tmp 13) (.tmp 18) rfl B (.slice p1 N1 c1) ([] ++ [u8 t]) _ (u8 a) _ rfl HR1.out _ rfl (by first | rfl | simp) FA.out (by simp) hs1 ?_; intro v2 w2 hr2 hb2 hs2; obtain ⟨p2, N2, c2, rfl, _⟩ := hr2.shape; have HR2 : Hid (Row w2 B (.slice p2 N2 c2) ([] ++ [u8 t] ++ [u8 a])) := hr2; have HK2 : Hid (Below B (w.alloc (.cells #[.int .i64 a, .int .i64 b, .int .i64 t, .string p, .int .i64 c, .slice ps n cs] 30)) w2) := HK1.out.trans hb2; clear d0 d1 d2 d3 d4 d5; obtain ⟨⟨d0, d1, d2, d3, d4, d5⟩, _, _⟩ := HS.out _ HK2.out; clear hr2 hb2)
      | (go_at_call 33; refine (two_ref B (.slice p2 N2 c2) ([] ++ [u8 t] ++ [u8 a]) b w2 HR2.out (by omega) (by omega) (by simp) hs2).mono ?_; rintro e w3 ⟨v3, rfl, hr3, hb3, hs3⟩; obtain ⟨p3, N3, c3, rfl, _⟩ := hr3.shape; have HR3 : Hid (Row w3 B (.slice p3 N3 c3) ([] ++ [u8 t] ++ [u8 a] ++ b2 b)) := hr3; have HK3 : Hid (Below B (w.alloc (.cells #[.int .i64 a, .int .i64 b, .int .i64 t, .string p, .int .i64 c, .slice ps n cs] 30)) w3) := HK2.out.trans hb3; clear d0 d1 d2 d3 d4 d5; obtain ⟨⟨d0, d1, d2, d3, d4, d5⟩, _, _⟩ := HS.out _ HK3.out; clear hr3 hb3)
      | (at_builtin; refine wpList_put1 _ rfl (.tmp 25) (.tmp 30) rfl B (.slice p3 N3 c3) ([] ++ [u8 t] ++ [u8 a] ++ b2 b) _ (u8 (p.size : Int)) _ rfl HR3.out _ rfl (by first | rfl | simp) FP.out (by simp [b2_len]) hs3 ?_; intro v4 w4 hr4 hb4 hs4; obtain ⟨p4, N4, c4, rfl, _⟩ := hr4.shape; have HR4 : Hid (Row w4 B (.slice p4 N4 c4) ([] ++ [u8 t] ++ [u8 a] ++ b2 b ++ [u8 (p.size : Int)])) := hr4; have HK4 : Hid (Below B (w.alloc (.cells #[.int .i64 a, .int .i64 b, .int .i64 t, .string p, .int .i64 c, .slice ps n cs] 30)) w4) := HK3.out.trans hb4; clear d0 d1 d2 d3 d4 d5; obtain ⟨⟨d0, d1, d2, d3, d4, d5⟩, _, _⟩ := HS.out _ HK4.out; clear hr4 hb4)
      | (at_builtin; refine wpList_putS _ rfl (.tmp 32) (.tmp 35) rfl B (.slice p4 N4 c4) ([] ++ [u8 t] ++ [u8 a] ++ b2 b ++ [u8 (p.size : Int)]) p _ _ rfl HR4.out _ rfl (by first | rfl | simp) (by simp [b2_len]; omega) hs4 ?_; intro v5 w5 hr5 hb5 hs5; obtain ⟨p5, N5, c5, rfl, _⟩ := hr5.shape; have HR5 : Hid (Row w5 B (.slice p5 N5 c5) ([] ++ [u8 t] ++ [u8 a] ++ b2 b ++ [u8 (p.size : Int)] ++ p.toList)) := hr5; have HK5 : Hid (Below B (w.alloc (.cells #[.int .i64 a, .int .i64 b, .int .i64 t, .string p, .int .i64 c, .slice ps n cs] 30)) w5) := HK4.out.trans hb5; clear d0 d1 d2 d3 d4 d5; obtain ⟨⟨d0, d1, d2, d3, d4, d5⟩, _, _⟩ := HS.out _ HK5.out; clear hr5 hb5 hcv))
    obtain ⟨g, NN, cc, hvv, HNN, HC⟩ := Row.full HR5.out (by simp)
    injection hvv with hv1 hv2 hv3
    subst hv1 hv2 hv3
    obtain ⟨LL, hLL⟩ : ∃ LL, LL = [] ++ [u8 t] ++ [u8 a] ++ b2 b ++ [u8 (p.size : Int)] ++ p.toList := ⟨_, rfl⟩
    have HLE : Hid (LL ++ [u8 (sumB LL % 253)] = bytesB ((a, b), t, p, c, [])) := by
      unfold Hid; rw [hLL]; unfold bytesB frontB tailB b2
      simp [HT1.out, HT4.out]
    have hNL : N5 ≤ 200 := by rw [HNN.out]; simp [b2_len, Om.len_eq]; omega
    rw [← hLL] at HR5 HNN HC
    clear hLL d0 d1 d2 d3 d4 d5 
    go_loop [5, 6] (fun sm i => ∃ (k : Nat) (S : Int), k ≤ N5 ∧ i = .int .i64 k ∧ sm = .int .i64 S ∧ 0 ≤ S ∧ S ≤ 255 * k ∧ Hid (S = sumB (LL.take k))) (fun _ i => N5 - (intOf i).toNat)
    case atStart => exact ⟨0, 0, by omega, rfl, rfl, by omega, by omega, rfl⟩
    case round =>
      obtain ⟨k, S, hk, rfl, rfl, hS0, hS1, HSS⟩ := hrel
      by_cases hlt : k < N5
      · have hltz : (k : Int) < N5 := by omega
        have hkL : k < LL.length := by rw [← HNN.out]; exact hlt
        have hcell := HC.out k hkL
        have HST := sum_step hkL
        obtain ⟨x, hx⟩ : ∃ x, x = LL.getD k 0 := ⟨_, rfl⟩
        rw [← hx] at hcell HST
        have hxb : x.toNat < 256 := UInt8.toNat_lt x
        obtain ⟨z, hz⟩ : ∃ z : Int, z = (x.toNat : Int) := ⟨_, rfl⟩
        rw [← hz] at hcell HST
        have hz0 : 0 ≤ z := by omega
        have hz1 : z ≤ 255 := by omega
        have HST2 : Hid (S + z = sumB (LL.take (k + 1))) := by unfold Hid; rw [HST, HSS.out]
        clear hx hz hxb HST hkL
        go_wp2_with fail
        go_round
        case rel => exact ⟨k + 1, S + z, by omega, by go_num, by go_num, by omega, by omega, HST2⟩
        case measure => simp [intOf]; omega
      · obtain rfl : k = N5 := by omega
        have HSE : Hid (S = sumB LL) := by
          have h9 := HSS.out
          rw [List.take_of_length_le (by rw [← HNN.out]; exact Nat.le_refl _)] at h9
          exact h9
        have FS : Hid (S % 253 = ((u8 (S % 253)).toNat : Int)) := (u8_val (by omega) (by omega)).symm
        have HLb : Hid (LL.length + 1 ≤ 1000000000) := by unfold Hid; rw [← HNN.out]; omega
        have hltz : ¬ (k : Int) < k := by omega
        go_wp2_with (at_builtin; refine wpList_put1 _ rfl (.tmp 94) (.tmp 98) rfl B (.slice (some ⟨g, 0, none⟩) k c5) LL _ (u8 (S % 253)) _ rfl HR5.out _ rfl (by first | rfl | simp) FS.out HLb.out hs5 ?_; intro v9 w9 hr9 hb9 hs9; have hcv9 := hr9.reads (by simp); obtain ⟨p9, N9, c9, rfl, _⟩ := hr9.shape; have HK9 : Hid (Below B (w.alloc (.cells #[.int .i64 a, .int .i64 b, .int .i64 t, .string p, .int .i64 c, .slice ps n cs] 30)) w9) := HK5.out.trans hb9; rw [HSE.out, HLE.out] at hcv9; obtain ⟨T9, hT9⟩ : ∃ T9 : ByteArray, T9 = ⟨(bytesB ((a, b), t, p, c, [])).toArray⟩ := ⟨_, rfl⟩; rw [← hT9] at hcv9; have HT9 : Hid (T9 = ⟨(bytesB ((a, b), t, p, c, [])).toArray⟩) := hT9; clear hT9 hr9 hb9)
        go_ret
        exact ⟨by rw [HT9.out]; rfl, (HS.out _ HK9.out).2.2⟩
  · subst t4
    have FN : Hid ((n : Int) = ((u8 (n : Int)).toNat : Int)) := (u8_val (by omega) (by omega)).symm
    have hnz : (n : Int) ≤ 40 := by omega
    clear g1 g2 g3 t1
    go_enter Tryz.func34, Tryz.ntmps34
    go_wp2_with (first
      | (at_builtin; refine wpList_put1 _ rfl (.tmp 7) (.tmp 11) rfl B (.slice none 0 0) ([]) _ (u8 4) _ rfl (Row.nil _ _) _ rfl (by first | rfl | simp) FT.out (by simp) HBB.out ?_; intro v1 w1 hr1 hb1 hs1; obtain ⟨p1, N1, c1, rfl, _⟩ := hr1.shape; have HR1 : Hid (Row w1 B (.slice p1 N1 c1) ([] ++ [u8 4])) := hr1; have HK1 : Hid (Below B (w.alloc (.cells #[.int .i64 a, .int .i64 b, .int .i64 4, .string p, .int .i64 c, .slice ps n cs] 30)) w1) := hb1; obtain ⟨⟨d0, d1, d2, d3, d4, d5⟩, _, _⟩ := HS.out _ HK1.out; clear hr1 hb1)
      | (at_builtin; refine wpList_put1 _ rfl (.tmp 13) (.tmp 18) rfl B (.slice p1 N1 c1) ([] ++ [u8 4]) _ (u8 a) _ rfl HR1.out _ rfl (by first | rfl | simp) FA.out (by simp) hs1 ?_; intro v2 w2 hr2 hb2 hs2; obtain ⟨p2, N2, c2, rfl, _⟩ := hr2.shape; have HR2 : Hid (Row w2 B (.slice p2 N2 c2) ([] ++ [u8 4] ++ [u8 a])) := hr2; have HK2 : Hid (Below B (w.alloc (.cells #[.int .i64 a, .int .i64 b, .int .i64 4, .string p, .int .i64 c, .slice ps n cs] 30)) w2) := HK1.out.trans hb2; clear d0 d1 d2 d3 d4 d5; obtain ⟨⟨d0, d1, d2, d3, d4, d5⟩, _, _⟩ := HS.out _ HK2.out; clear hr2 hb2)
      | (go_at_call 33; refine (two_ref B (.slice p2 N2 c2) ([] ++ [u8 4] ++ [u8 a]) b w2 HR2.out (by omega) (by omega) (by simp) hs2).mono ?_; rintro e w3 ⟨v3, rfl, hr3, hb3, hs3⟩; obtain ⟨p3, N3, c3, rfl, _⟩ := hr3.shape; have HR3 : Hid (Row w3 B (.slice p3 N3 c3) ([] ++ [u8 4] ++ [u8 a] ++ b2 b)) := hr3; have HK3 : Hid (Below B (w.alloc (.cells #[.int .i64 a, .int .i64 b, .int .i64 4, .string p, .int .i64 c, .slice ps n cs] 30)) w3) := HK2.out.trans hb3; clear d0 d1 d2 d3 d4 d5; obtain ⟨⟨d0, d1, d2, d3, d4, d5⟩, _, _⟩ := HS.out _ HK3.out; clear hr3 hb3)
      | (at_builtin; refine wpList_put1 _ rfl (.tmp 25) (.tmp 30) rfl B (.slice p3 N3 c3) ([] ++ [u8 4] ++ [u8 a] ++ b2 b) _ (u8 (p.size : Int)) _ rfl HR3.out _ rfl (by first | rfl | simp) FP.out (by simp [b2_len]) hs3 ?_; intro v4 w4 hr4 hb4 hs4; obtain ⟨p4, N4, c4, rfl, _⟩ := hr4.shape; have HR4 : Hid (Row w4 B (.slice p4 N4 c4) ([] ++ [u8 4] ++ [u8 a] ++ b2 b ++ [u8 (p.size : Int)])) := hr4; have HK4 : Hid (Below B (w.alloc (.cells #[.int .i64 a, .int .i64 b, .int .i64 4, .string p, .int .i64 c, .slice ps n cs] 30)) w4) := HK3.out.trans hb4; clear d0 d1 d2 d3 d4 d5; obtain ⟨⟨d0, d1, d2, d3, d4, d5⟩, _, _⟩ := HS.out _ HK4.out; clear hr4 hb4)
      | (at_builtin; refine wpList_putS _ rfl (.tmp 32) (.tmp 35) rfl B (.slice p4 N4 c4) ([] ++ [u8 4] ++ [u8 a] ++ b2 b ++ [u8 (p.size : Int)]) p _ _ rfl HR4.out _ rfl (by first | rfl | simp) (by simp [b2_len]; omega) hs4 ?_; intro v5 w5 hr5 hb5 hs5; obtain ⟨p5, N5, c5, rfl, _⟩ := hr5.shape; have HR5 : Hid (Row w5 B (.slice p5 N5 c5) ([] ++ [u8 4] ++ [u8 a] ++ b2 b ++ [u8 (p.size : Int)] ++ p.toList)) := hr5; have HK5 : Hid (Below B (w.alloc (.cells #[.int .i64 a, .int .i64 b, .int .i64 4, .string p, .int .i64 c, .slice ps n cs] 30)) w5) := HK4.out.trans hb5; clear d0 d1 d2 d3 d4 d5; obtain ⟨⟨d0, d1, d2, d3, d4, d5⟩, _, _⟩ := HS.out _ HK5.out; clear hr5 hb5 hcv)
      | (at_builtin; refine wpList_put1 _ rfl (.tmp 49) (.tmp 54) rfl B (.slice p5 N5 c5) ([] ++ [u8 4] ++ [u8 a] ++ b2 b ++ [u8 (p.size : Int)] ++ p.toList) _ (u8 (n : Int)) _ rfl HR5.out _ rfl (by first | rfl | simp) FN.out (by simp [b2_len, Om.len_eq]; omega) hs5 ?_; intro v6 w6 hr6 hb6 hs6; obtain ⟨p6, N6, c6, rfl, _⟩ := hr6.shape; have HR6 : Hid (Row w6 B (.slice p6 N6 c6) ([] ++ [u8 4] ++ [u8 a] ++ b2 b ++ [u8 (p.size : Int)] ++ p.toList ++ [u8 (n : Int)])) := hr6; have HK6 : Hid (Below B (w.alloc (.cells #[.int .i64 a, .int .i64 b, .int .i64 4, .string p, .int .i64 c, .slice ps n cs] 30)) w6) := HK5.out.trans hb6; clear d0 d1 d2 d3 d4 d5; obtain ⟨⟨d0, d1, d2, d3, d4, d5⟩, _, _⟩ := HS.out _ HK6.out; clear hr6 hb6))
    obtain ⟨Q6, hQ6⟩ : ∃ Q, Q = [] ++ [u8 4] ++ [u8 a] ++ b2 b ++ [u8 (p.size : Int)] ++ p.toList ++ [u8 (n : Int)] := ⟨_, rfl⟩
    have HQ6 : Hid (Q6 = [] ++ [u8 4] ++ [u8 a] ++ b2 b ++ [u8 (p.size : Int)] ++ p.toList ++ [u8 (n : Int)]) := hQ6
    have HQL : Hid (Q6.length ≤ 30) := by rw [hQ6]; unfold Hid; simp [Om.len_eq, b2_len]; omega
    have HR6b : Hid (Row w6 B (.slice p6 N6 c6) (Q6 ++ seenB (s.take 0))) := by
      have h9 := HR6.out
      rw [← hQ6] at h9
      rw [show seenB (s.take 0) = [] from rfl, List.append_nil]; exact h9
    clear hQ6 HR6 d0 d1 d2 d3 d4 d5
    go_loopw [3, 4] (fun v i wr => ∃ (k : Nat), k ≤ n ∧ i = .int .i64 k ∧ (∃ P N C, v = .slice P N C) ∧ Hid (Row wr B v (Q6 ++ seenB (s.take k))) ∧ Hid (Below B (w.alloc (.cells #[.int .i64 a, .int .i64 b, .int .i64 4, .string p, .int .i64 c, .slice ps n cs] 30)) wr) ∧ B ≤ wr.heap.size) (fun _ i _ => n - (intOf i).toNat)
    case atStart => exact ⟨0, by omega, rfl, ⟨_, _, _, rfl⟩, HR6b, HK6, hs6⟩
    case round =>
      clear HR6b HK6 hs6
      obtain ⟨k, hk, rfl, ⟨p6, N6, c6, rfl⟩, HR6, HK6, hs6⟩ := hrel
      obtain ⟨⟨d0, d1, d2, d3, d4, d5⟩, hdd, _⟩ := HS.out _ HK6.out
      by_cases hlt : k < n
      · have hltz : (k : Int) < n := by omega
        have hks : k < s.length := by rw [HLN.out]; exact hlt
        obtain ⟨b0, o0, rfl⟩ := dts_some hdd hks
        have hx := dts_at hdd hks
        have HST := seen_step hks
        have HXD := HD.out _ (getD_mem hks)
        obtain ⟨x, hxe⟩ : ∃ x, x = s.getD k noneD := ⟨_, rfl⟩
        rw [← hxe] at hx HST HXD
        obtain ⟨x1, x2⟩ := x
        obtain ⟨f1, f2⟩ := hx
        simp only at f1 f2 HST HXD
        obtain ⟨hx1, hx2, hx3, hx4⟩ := HXD
        have FX : Hid (x1 = ((u8 x1).toNat : Int)) := (u8_val (by omega) (by omega)).symm
        have HLK : Hid ((Q6 ++ seenB (s.take k)).length ≤ 200) := by
          unfold Hid; rw [List.length_append, seenB_len, List.length_take]; have := HQL.out; omega
        have HST2 : Hid (Q6 ++ seenB (s.take (k + 1)) = (Q6 ++ seenB (s.take k)) ++ [u8 x1] ++ b2 x2) := by unfold Hid; rw [HST]; simp
        have HXE : Hid ((x1, x2) = s.getD k noneD) := hxe
        have HKS : Hid (k < s.length) := hks
        clear hxe HST hdd hks
        obtain ⟨Q7, hQ7⟩ : ∃ Q, Q = Q6 ++ seenB (s.take k) := ⟨_, rfl⟩
        rw [← hQ7] at HR6 HLK HST2
        have HL1 : Hid (Q7.length + 1 ≤ 1000000000) := by unfold Hid; have := HLK.out; omega
        have HL2 : Hid ((Q7 ++ [u8 x1]).length ≤ 1000000) := by unfold Hid; have := HLK.out; simp; omega
        clear hQ7
        go_wp2_with (first
          | (at_builtin; refine wpList_put1 _ rfl (.tmp 63) (.tmp 71) rfl B (.slice p6 N6 c6) Q7 _ (u8 x1) _ rfl HR6.out _ rfl (by first | rfl | simp) FX.out HL1.out hs6 ?_; intro v7 w7 hr7 hb7 hs7; obtain ⟨p7, N7, c7, rfl, _⟩ := hr7.shape; have HR7 : Hid (Row w7 B (.slice p7 N7 c7) (Q7 ++ [u8 x1])) := hr7; have HK7 : Hid (Below B (w.alloc (.cells #[.int .i64 a, .int .i64 b, .int .i64 4, .string p, .int .i64 c, .slice (some ⟨b0, o0, none⟩) n cs] 30)) w7) := HK6.out.trans hb7; clear d0 d1 d2 d3 d4 d5; obtain ⟨⟨d0, d1, d2, d3, d4, d5⟩, hd7, _⟩ := HS.out _ HK7.out; have f34 := dts_at hd7 HKS.out; rw [← HXE.out] at f34; obtain ⟨f3, f4⟩ := f34; simp only at f3 f4; clear hr7 hb7 f1 f2 hd7)
          | (go_at_call 33; refine (two_ref B (.slice p7 N7 c7) (Q7 ++ [u8 x1]) x2 w7 HR7.out (by omega) (by omega) HL2.out hs7).mono ?_; rintro e w8 ⟨v8, rfl, hr8, hb8, hs8⟩; obtain ⟨p8, N8, c8, rfl, _⟩ := hr8.shape; have HR8 : Hid (Row w8 B (.slice p8 N8 c8) ((Q7 ++ [u8 x1]) ++ b2 x2)) := hr8; have HK8 : Hid (Below B (w.alloc (.cells #[.int .i64 a, .int .i64 b, .int .i64 4, .string p, .int .i64 c, .slice (some ⟨b0, o0, none⟩) n cs] 30)) w8) := HK7.out.trans hb8; clear hr8 hb8))
        rw [← HST2.out] at HR8
        go_roundw
        case rel => exact ⟨k + 1, by omega, by go_num, ⟨_, _, _, rfl⟩, HR8, HK8, hs8⟩
        case measure => simp [intOf]; omega
      · obtain rfl : n = k := by omega
        have hltz : ¬ (n : Int) < n := by omega
        rw [List.take_of_length_le (by rw [HLN.out]; exact Nat.le_refl _)] at HR6
        clear hlt hk
        go_wp2_with fail
        obtain ⟨g, NN, cc, hvv, HNN, HC⟩ := Row.full HR6.out (by rw [HQ6.out]; simp)
        injection hvv with hv1 hv2 hv3
        subst hv1 hv2 hv3
        obtain ⟨LL, hLL⟩ : ∃ LL, LL = Q6 ++ seenB s := ⟨_, rfl⟩
        have HLE : Hid (LL ++ [u8 (sumB LL % 253)] = bytesB ((a, b), 4, p, c, s)) := by
          unfold Hid; rw [hLL, HQ6.out]; unfold bytesB frontB tailB b2
          simp [HLN.out]
        have hNL : N6 ≤ 200 := by rw [HNN.out]; rw [List.length_append, seenB_len, HLN.out]; have := HQL.out; omega
        rw [← hLL] at HR6 HNN HC
        clear hLL d0 d1 d2 d3 d4 d5 
        go_loop [5, 6] (fun sm i => ∃ (k : Nat) (S : Int), k ≤ N6 ∧ i = .int .i64 k ∧ sm = .int .i64 S ∧ 0 ≤ S ∧ S ≤ 255 * k ∧ Hid (S = sumB (LL.take k))) (fun _ i => N6 - (intOf i).toNat)
        case atStart => exact ⟨0, 0, by omega, rfl, rfl, by omega, by omega, rfl⟩
        case round =>
          obtain ⟨k, S, hk, rfl, rfl, hS0, hS1, HSS⟩ := hrel
          by_cases hlt : k < N6
          · have hltz : (k : Int) < N6 := by omega
            have hkL : k < LL.length := by rw [← HNN.out]; exact hlt
            have hcell := HC.out k hkL
            have HST := sum_step hkL
            obtain ⟨x, hx⟩ : ∃ x, x = LL.getD k 0 := ⟨_, rfl⟩
            rw [← hx] at hcell HST
            have hxb : x.toNat < 256 := UInt8.toNat_lt x
            obtain ⟨z, hz⟩ : ∃ z : Int, z = (x.toNat : Int) := ⟨_, rfl⟩
            rw [← hz] at hcell HST
            have hz0 : 0 ≤ z := by omega
            have hz1 : z ≤ 255 := by omega
            have HST2 : Hid (S + z = sumB (LL.take (k + 1))) := by unfold Hid; rw [HST, HSS.out]
            clear hx hz hxb HST hkL
            go_wp2_with fail
            go_round
            case rel => exact ⟨k + 1, S + z, by omega, by go_num, by go_num, by omega, by omega, HST2⟩
            case measure => simp [intOf]; omega
          · obtain rfl : k = N6 := by omega
            have HSE : Hid (S = sumB LL) := by
              have h9 := HSS.out
              rw [List.take_of_length_le (by rw [← HNN.out]; exact Nat.le_refl _)] at h9
              exact h9
            have FS : Hid (S % 253 = ((u8 (S % 253)).toNat : Int)) := (u8_val (by omega) (by omega)).symm
            have HLb : Hid (LL.length + 1 ≤ 1000000000) := by unfold Hid; rw [← HNN.out]; omega
            have hltz : ¬ (k : Int) < k := by omega
            go_wp2_with (at_builtin; refine wpList_put1 _ rfl (.tmp 94) (.tmp 98) rfl B (.slice (some ⟨g, 0, none⟩) k c6) LL _ (u8 (S % 253)) _ rfl HR6.out _ rfl (by first | rfl | simp) FS.out HLb.out hs6 ?_; intro v9 w9 hr9 hb9 hs9; have hcv9 := hr9.reads (by simp); obtain ⟨p9, N9, c9, rfl, _⟩ := hr9.shape; have HK9 : Hid (Below B (w.alloc (.cells #[.int .i64 a, .int .i64 b, .int .i64 4, .string p, .int .i64 c, .slice ps n cs] 30)) w9) := HK6.out.trans hb9; rw [HSE.out, HLE.out] at hcv9; obtain ⟨T9, hT9⟩ : ∃ T9 : ByteArray, T9 = ⟨(bytesB ((a, b), 4, p, c, s)).toArray⟩ := ⟨_, rfl⟩; rw [← hT9] at hcv9; have HT9 : Hid (T9 = ⟨(bytesB ((a, b), 4, p, c, s)).toArray⟩) := hT9; clear hT9 hr9 hb9)
            go_ret
            exact ⟨by rw [HT9.out]; rfl, (HS.out _ HK9.out).2.2⟩

end Oe
end Go.Proofs.YtpoijhfojdmdpaaGreatDoor
/- What the reference's Decode answers. -/
namespace Go.Proofs.YtpoijhfojdmdpaaGreatDoor
namespace Oh
set_option linter.unusedVariables false
open Go.ChangeShapes Go.WideShapes Go.ChangeAt Go.RowKit Cm Ka Kb Na Om Oa Oz Oc Od Oe Og Oi Ob
open La (bel bel_drew errV_zero errV_ne own_ge own_grow own_below)

def Z6 : Array Value := #[.int .i64 0, .int .i64 0, .int .i64 0, .string ⟨#[]⟩, .int .i64 0, .slice none 0 0]
theorem two_boxes {w w5 : World} {A B : Array Value} {t : TypeId} (hb : Below ((w.alloc (.cells A t)).alloc (.cells B t)).heap.size ((w.alloc (.cells A t)).alloc (.cells B t)) w5) :
    w5.heap[w.heap.size]? = some (.cells A t (0, 0)) ∧ w5.heap[w.heap.size + 1]? = some (.cells B t (0, 0)) ∧ Below w.heap.size w w5 ∧ w.heap.size + 2 ≤ w5.heap.size := by
  refine ⟨?_, ?_, bel (((Below.refl _ w).alloc (Nat.le_refl _) _).alloc (by simp) _) hb, ?_⟩
  · rw [hb.block _ (by simp; omega)]
    have := heap_alloc_old (w.alloc (.cells A t)) (.cells B t) (show w.heap.size < _ by simp)
    exact this.trans (heap_alloc_new w _)
  · rw [hb.block _ (by simp)]
    have := heap_alloc_new (w.alloc (.cells A t)) (.cells B t)
    rwa [show (w.alloc (.cells A t)).heap.size = w.heap.size + 1 by simp] at this
  · have := hb.size
    simp at this
    omega
/- six cells of one block are written -/
def six6 (w : World) (g : Nat) (x0 x1 x2 x3 x4 x5 : Value) : World := (((((w.setCell ⟨g, 0, none⟩ x0).setCell ⟨g, 1, none⟩ x1).setCell ⟨g, 2, none⟩ x2).setCell ⟨g, 3, none⟩ x3).setCell ⟨g, 4, none⟩ x4).setCell ⟨g, 5, none⟩ x5
theorem six6_block (w : World) (g : Nat) (x0 x1 x2 x3 x4 x5 : Value) (k : Nat) (h : k ≠ g) : (six6 w g x0 x1 x2 x3 x4 x5).heap[k]? = w.heap[k]? := by
  unfold six6
  rw [set_block _ _ _ _ h, set_block _ _ _ _ h, set_block _ _ _ _ h, set_block _ _ _ _ h, set_block _ _ _ _ h, set_block _ _ _ _ h]
theorem six6_size (w : World) (g : Nat) (x0 x1 x2 x3 x4 x5 : Value) : (six6 w g x0 x1 x2 x3 x4 x5).heap.size = w.heap.size := by
  simp [six6, World.setCell]
theorem six6_below {w0 w : World} {g B : Nat} (hb : Below B w0 w) (hg : B ≤ g) (x0 x1 x2 x3 x4 x5 : Value) : Below B w0 (six6 w g x0 x1 x2 x3 x4 x5) :=
  (((((hb.setCell (p := ⟨g, 0, none⟩) hg x0).setCell (p := ⟨g, 1, none⟩) hg x1).setCell (p := ⟨g, 2, none⟩) hg x2).setCell (p := ⟨g, 3, none⟩) hg x3).setCell (p := ⟨g, 4, none⟩) hg x4).setCell (p := ⟨g, 5, none⟩) hg x5
theorem keep_heap {W W' : World} {k : Nat} {o : Obj} (hb : Below W.heap.size W W') (h : W.heap[k]? = some o) : W'.heap[k]? = some o := by
  rw [hb.block k (by
    rcases Nat.lt_or_ge k W.heap.size with e | e
    · exact e
    · rw [Array.getElem?_eq_none e] at h; cases h)]
  exact h
set_option maxRecDepth 100000 in
set_option maxHeartbeats 4000000 in
theorem decode_ref (s : ByteArray) (w : World) (hs : s.size ≤ maxLen) :
    Calls Tryz.prog 63 #[.string s] w fun e w' => ∃ u, e = .returned (.tuple #[u, .bool (decB s.toList).isSome]) ∧ Kept w.heap.size w' u ((decB s.toList).getD oz) ∧ Below w.heap.size w w' := by
  have hm := hs
  unfold maxLen at hm
  by_cases h5 : s.size < 5
  · have HE : Hid (decB s.toList = none) := by unfold Hid decB; rw [if_pos (Or.inl (by rw [Om.len_eq]; exact h5))]
    have hz : (s.size : Int) < 5 := by omega
    go_enter Tryz.func63, Tryz.ntmps63
    go_wp2_with fail
    refine bodyPost_ret (v := .tuple #[opV oz (.slice none 0 0), .bool false]) ?_ rfl ⟨_, by rw [HE.out]; rfl, by rw [HE.out]; exact fun W _ => ⟨_, rfl, DtsAt.nil _⟩, ?_⟩
    · simp [results, Tryz.results63, opV, oz, go_sem, asAddr, Result.andThen]
      rfl
    · exact (Below.refl _ w).alloc (Nat.le_refl _) _
  have h4 : 4 < s.size := by omega
  have h0 : 0 < s.size := by omega
  have h1 : 1 < s.size := by omega
  have hb4 : s[4].toNat < 256 := UInt8.toNat_lt _
  have hz : ¬ (s.size : Int) < 5 := by omega
  by_cases h6 : s.size < 5 + s[4].toNat
  · have HE : Hid (decB s.toList = none) := by unfold Hid decB; rw [if_pos (Or.inr (by rw [Om.len_eq, at_list s 4 h4]; exact h6))]
    have hz2 : (s.size : Int) < 5 + (s[4].toNat : Int) := by omega
    go_enter Tryz.func63, Tryz.ntmps63
    go_wp2_with fail
    refine bodyPost_ret (v := .tuple #[opV oz (.slice none 0 0), .bool false]) ?_ rfl ⟨_, by rw [HE.out]; rfl, by rw [HE.out]; exact fun W _ => ⟨_, rfl, DtsAt.nil _⟩, ?_⟩
    · simp [results, Tryz.results63, opV, oz, go_sem, asAddr, Result.andThen]
      rfl
    · exact (Below.refl _ w).alloc (Nat.le_refl _) _
  have hz2 : ¬ (s.size : Int) < 5 + (s[4].toNat : Int) := by omega
  have hb0 : s[0].toNat < 256 := UInt8.toNat_lt _
  have hb1 : s[1].toNat < 256 := UInt8.toNat_lt _
  obtain ⟨E, hE⟩ : ∃ E : Nat, (5 : Int) + (s[4].toNat : Int) = (E : Int) := ⟨5 + s[4].toNat, by omega⟩
  have hE5 : 5 ≤ E := by omega
  have hEs : E ≤ s.size := by omega
  have hE5z : (5 : Int) ≤ E := by omega
  have hEsz : (E : Int) ≤ s.size := by omega
  obtain ⟨t, ht⟩ : ∃ t : Int, (s[0].toNat : Int) = t := ⟨_, rfl⟩
  obtain ⟨a, ha⟩ : ∃ a : Int, (s[1].toNat : Int) = a := ⟨_, rfl⟩
  obtain ⟨b, hb⟩ : ∃ b : Int, ((numAt s.toList 2 : Nat) : Int) = b := ⟨_, rfl⟩
  obtain ⟨P, hP⟩ : ∃ P, s.extract 5 E = P := ⟨_, rfl⟩
  obtain ⟨R0, hR⟩ : ∃ R0, s.extract E s.size = R0 := ⟨_, rfl⟩
  have HRD := read_of s E a b t P R0 h4 hE ht ha hb hP hR hEs
  have hRs : R0.size = s.size - E := by rw [← hR, size_extract s E s.size (Nat.le_refl _)]
  have hPm : P.size ≤ maxLen := by rw [← hP, size_extract s 5 E hEs]; omega
  have hRm : R0.size ≤ maxLen := by omega
  have CN := fun W => number_ref s 2 W (by omega) hs
  rw [hb] at CN
  clear hb
  have HSZ : Hid (R0.size = s.size - E) := hRs
  clear hRs
  by_cases hr0 : R0.size = 0
  · have hrl : R0.toList = [] := List.eq_nil_of_length_eq_zero (by rw [Om.len_eq]; exact hr0)
    have hrz : ¬ (0 : Int) < R0.size := by omega
    have HX : Hid (readB s.toList = ((a, b), t, P, 0, [])) := by
      unfold Hid; rw [HRD, hrl]; unfold letterIn seenIn
      simp [threes]
    clear HRD hrl
    by_cases t1 : t = 1
    · have t1b : (t == 1) = true := by simpa using t1
      have t4b : (t == 4) = false := by rw [t1]; rfl
      clear t1
      go_enter Tryz.func63, Tryz.ntmps63
      go_wp2_with fail
      refine (CN _).mono ?_
      rintro e w5 ⟨rfl, hb5⟩
      obtain ⟨hr5, ho5, hbb5, hsz5⟩ := two_boxes hb5
      have KR5 : Hid (w5.heap[w.heap.size]? = some (.cells Z6 30 (0, 0))) := hr5
      have O : Hid (w5.heap[w.heap.size + 1]? = some (.cells #[.int .i64 a, .int .i64 0, .int .i64 t, .string ⟨#[]⟩, .int .i64 0, .slice none 0 0] 30 (0, 0))) := ho5
      have K5 : Hid (Below w.heap.size w w5) := hbb5
      have HZ5 : Hid (w.heap.size + 2 ≤ w5.heap.size) := hsz5
      clear hb5 hr5 ho5 hbb5 hsz5 CN
      have o0 : w5.cell? ⟨w.heap.size + 1, 0, none⟩ = some (.int .i64 a) := cell_of O.out rfl
      have o1 : w5.cell? ⟨w.heap.size + 1, 1, none⟩ = some (.int .i64 0) := cell_of O.out rfl
      have o2 : w5.cell? ⟨w.heap.size + 1, 2, none⟩ = some (.int .i64 t) := cell_of O.out rfl
      have o3 : w5.cell? ⟨w.heap.size + 1, 3, none⟩ = some (.string ⟨#[]⟩) := cell_of O.out rfl
      have o4 : w5.cell? ⟨w.heap.size + 1, 4, none⟩ = some (.int .i64 0) := cell_of O.out rfl
      have o5 : w5.cell? ⟨w.heap.size + 1, 5, none⟩ = some (.slice none 0 0) := cell_of O.out rfl
      have fo0 : w5.frozen? ⟨w.heap.size + 1, 0, none⟩ = false := free_of O.out
      have fo1 : w5.frozen? ⟨w.heap.size + 1, 1, none⟩ = false := free_of O.out
      have fo2 : w5.frozen? ⟨w.heap.size + 1, 2, none⟩ = false := free_of O.out
      have fo3 : w5.frozen? ⟨w.heap.size + 1, 3, none⟩ = false := free_of O.out
      have fo4 : w5.frozen? ⟨w.heap.size + 1, 4, none⟩ = false := free_of O.out
      have fo5 : w5.frozen? ⟨w.heap.size + 1, 5, none⟩ = false := free_of O.out
      go_wp2_with fail
      have KO5 : Hid ((((w5.setCell ⟨w.heap.size + 1, 1, none⟩ (.int .i64 b)).setCell ⟨w.heap.size + 1, 3, none⟩ (.string P))).heap[w.heap.size + 1]? = some (.cells #[.int .i64 a, .int .i64 b, .int .i64 t, .string P, .int .i64 0, .slice none 0 0] 30 (0, 0))) := setCell_heap (setCell_heap O.out)
      have KR7 : Hid ((((w5.setCell ⟨w.heap.size + 1, 1, none⟩ (.int .i64 b)).setCell ⟨w.heap.size + 1, 3, none⟩ (.string P))).heap[w.heap.size]? = some (.cells Z6 30 (0, 0))) := by unfold Hid; rw [set_block _ _ _ _ (by simp), set_block _ _ _ _ (by simp)]; exact KR5.out
      have K75 : Hid (Below w.heap.size w (((w5.setCell ⟨w.heap.size + 1, 1, none⟩ (.int .i64 b)).setCell ⟨w.heap.size + 1, 3, none⟩ (.string P)))) := (K5.out.setCell (p := ⟨w.heap.size + 1, 1, none⟩) (by simp) _).setCell (p := ⟨w.heap.size + 1, 3, none⟩) (by simp) _
      obtain ⟨w7, hw7⟩ : ∃ w7, w7 = ((w5.setCell ⟨w.heap.size + 1, 1, none⟩ (.int .i64 b)).setCell ⟨w.heap.size + 1, 3, none⟩ (.string P)) := ⟨_, rfl⟩
      rw [← hw7] at KO5 KR7 K75
      rw [← hw7]
      have KO := KO5
      have KR := KR7
      have K7 := K75
      have HV : Hid (∀ W, (∀ k, w.heap.size + 2 ≤ k → k < w7.heap.size → W.heap[k]? = w7.heap[k]?) → DtsAt W (.slice none 0 0) []) := fun W _ => DtsAt.nil W
      clear KO5 KR7 K75 KR5 K5 O o0 o1 o2 o3 o4 o5 fo0 fo1 fo2 fo3 fo4 fo5 hw7
      have CO := op_ref a b t P (0) (.slice none 0 0) ([]) w7 hPm (HV.out w7 (fun _ _ _ => rfl))
      by_cases hop : opE ((a, b), t, P, 0, []) = 0
      case neg =>
        have HE : Hid (decB s.toList = none) := by
          unfold Hid decB
          split
          · rfl
          · rw [HX.out, if_neg (fun e => hop e.1)]
        obtain ⟨q, hq⟩ : ∃ q, q = opE ((a, b), t, P, 0, []) := ⟨_, rfl⟩
        have hqn : (q != 0) = true := by rw [hq]; simpa using hop
        rw [← hq] at CO
        clear hq hop
        refine CO.mono ?_
        rintro e w8 ⟨rfl, hb8⟩
        have KB8 : Hid (Below w.heap.size w w8) := bel K7.out hb8
        have R : Hid (w8.heap[w.heap.size]? = some (.cells Z6 30 (0, 0))) := keep_heap hb8 KR.out
        have r0 : w8.cell? ⟨w.heap.size, 0, none⟩ = some (.int .i64 0) := cell_of R.out rfl
        have r1 : w8.cell? ⟨w.heap.size, 1, none⟩ = some (.int .i64 0) := cell_of R.out rfl
        have r2 : w8.cell? ⟨w.heap.size, 2, none⟩ = some (.int .i64 0) := cell_of R.out rfl
        have r3 : w8.cell? ⟨w.heap.size, 3, none⟩ = some (.string ⟨#[]⟩) := cell_of R.out rfl
        have r4 : w8.cell? ⟨w.heap.size, 4, none⟩ = some (.int .i64 0) := cell_of R.out rfl
        have r5 : w8.cell? ⟨w.heap.size, 5, none⟩ = some (.slice none 0 0) := cell_of R.out rfl
        have fr0 : w8.frozen? ⟨w.heap.size, 0, none⟩ = false := free_of R.out
        have fr1 : w8.frozen? ⟨w.heap.size, 1, none⟩ = false := free_of R.out
        have fr2 : w8.frozen? ⟨w.heap.size, 2, none⟩ = false := free_of R.out
        have fr3 : w8.frozen? ⟨w.heap.size, 3, none⟩ = false := free_of R.out
        have fr4 : w8.frozen? ⟨w.heap.size, 4, none⟩ = false := free_of R.out
        have fr5 : w8.frozen? ⟨w.heap.size, 5, none⟩ = false := free_of R.out
        clear hb8 CO
        go_wp2_with fail
        refine bodyPost_ret (v := .tuple #[opV oz (.slice none 0 0), .bool false]) ?_ rfl ⟨_, by rw [HE.out]; rfl, by rw [HE.out]; exact fun W _ => ⟨_, rfl, DtsAt.nil _⟩, ?_⟩
        · simp [results, Tryz.results63, opV, oz, go_sem, asAddr, Result.andThen, r0, r1, r2, r3, r4, r5]
          rfl
        · exact six6_below KB8.out (Nat.le_refl _) _ _ _ _ _ _
      rw [hop] at CO
      refine CO.mono ?_
      rintro e w8 ⟨rfl, hb8⟩
      have KB8 : Hid (Below w.heap.size w w8) := bel K7.out hb8
      have KR8 : Hid (w8.heap[w.heap.size]? = some (.cells Z6 30 (0, 0))) := keep_heap hb8 KR.out
      have O : Hid (w8.heap[w.heap.size + 1]? = some (.cells #[.int .i64 a, .int .i64 b, .int .i64 t, .string P, .int .i64 (0), .slice none 0 0] 30 (0, 0))) := keep_heap hb8 KO.out
      have HS8 : Hid (w7.heap.size ≤ w8.heap.size) := hb8.size
      have HK8 : Hid (∀ k, k < w7.heap.size → w8.heap[k]? = w7.heap[k]?) := hb8.block
      have o0 : w8.cell? ⟨w.heap.size + 1, 0, none⟩ = some (.int .i64 a) := cell_of O.out rfl
      have o1 : w8.cell? ⟨w.heap.size + 1, 1, none⟩ = some (.int .i64 b) := cell_of O.out rfl
      have o2 : w8.cell? ⟨w.heap.size + 1, 2, none⟩ = some (.int .i64 t) := cell_of O.out rfl
      have o3 : w8.cell? ⟨w.heap.size + 1, 3, none⟩ = some (.string P) := cell_of O.out rfl
      have o4 : w8.cell? ⟨w.heap.size + 1, 4, none⟩ = some (.int .i64 (0)) := cell_of O.out rfl
      have o5 : w8.cell? ⟨w.heap.size + 1, 5, none⟩ = some (.slice none 0 0) := cell_of O.out rfl
      have CB := bytes_ref a b t P (0) (.slice none 0 0) ([]) w8 (HV.out w8 (fun k _ hk => HK8.out k hk)) hop
      obtain ⟨T8, hT8⟩ : ∃ T8, T8 = bytesS ((a, b), t, P, 0, []) := ⟨_, rfl⟩
      rw [← hT8] at CB
      have HT8 : Hid (T8.toList = bytesB ((a, b), t, P, 0, [])) := by unfold Hid; rw [hT8, bytesS_list]
      have HOP : Hid (opE ((a, b), t, P, 0, []) = 0) := hop
      clear hb8 CO hT8 hop
      go_wp2_with fail
      refine CB.mono ?_
      rintro e w9 ⟨rfl, hb9⟩
      have KB9 : Hid (Below w.heap.size w w9) := bel KB8.out hb9
      have R : Hid (w9.heap[w.heap.size]? = some (.cells Z6 30 (0, 0))) := keep_heap hb9 KR8.out
      have r0 : w9.cell? ⟨w.heap.size, 0, none⟩ = some (.int .i64 0) := cell_of R.out rfl
      have r1 : w9.cell? ⟨w.heap.size, 1, none⟩ = some (.int .i64 0) := cell_of R.out rfl
      have r2 : w9.cell? ⟨w.heap.size, 2, none⟩ = some (.int .i64 0) := cell_of R.out rfl
      have r3 : w9.cell? ⟨w.heap.size, 3, none⟩ = some (.string ⟨#[]⟩) := cell_of R.out rfl
      have r4 : w9.cell? ⟨w.heap.size, 4, none⟩ = some (.int .i64 0) := cell_of R.out rfl
      have r5 : w9.cell? ⟨w.heap.size, 5, none⟩ = some (.slice none 0 0) := cell_of R.out rfl
      have fr0 : w9.frozen? ⟨w.heap.size, 0, none⟩ = false := free_of R.out
      have fr1 : w9.frozen? ⟨w.heap.size, 1, none⟩ = false := free_of R.out
      have fr2 : w9.frozen? ⟨w.heap.size, 2, none⟩ = false := free_of R.out
      have fr3 : w9.frozen? ⟨w.heap.size, 3, none⟩ = false := free_of R.out
      have fr4 : w9.frozen? ⟨w.heap.size, 4, none⟩ = false := free_of R.out
      have fr5 : w9.frozen? ⟨w.heap.size, 5, none⟩ = false := free_of R.out
      have KO9 : Hid (w9.heap[w.heap.size + 1]? = some (.cells #[.int .i64 a, .int .i64 b, .int .i64 t, .string P, .int .i64 (0), .slice none 0 0] 30 (0, 0))) := keep_heap hb9 O.out
      have HK9 : Hid (∀ k, w.heap.size + 2 ≤ k → k < w7.heap.size → w9.heap[k]? = w7.heap[k]?) := fun k _ hk => (hb9.block k (Nat.lt_of_lt_of_le hk HS8.out)).trans (HK8.out k hk)
      have HS9 : Hid (w7.heap.size ≤ w9.heap.size) := Nat.le_trans HS8.out hb9.size
      clear o0 o1 o2 o3 o4 o5
      have x0 : w9.cell? ⟨w.heap.size + 1, 0, none⟩ = some (.int .i64 a) := cell_of KO9.out rfl
      have x1 : w9.cell? ⟨w.heap.size + 1, 1, none⟩ = some (.int .i64 b) := cell_of KO9.out rfl
      have x2 : w9.cell? ⟨w.heap.size + 1, 2, none⟩ = some (.int .i64 t) := cell_of KO9.out rfl
      have x3 : w9.cell? ⟨w.heap.size + 1, 3, none⟩ = some (.string P) := cell_of KO9.out rfl
      have x4 : w9.cell? ⟨w.heap.size + 1, 4, none⟩ = some (.int .i64 (0)) := cell_of KO9.out rfl
      have x5 : w9.cell? ⟨w.heap.size + 1, 5, none⟩ = some (.slice none 0 0) := cell_of KO9.out rfl
      clear CB hb9
      by_cases hes : T8.toList = s.toList
      · have HE : Hid (decB s.toList = some ((a, b), t, P, 0, [])) := decB_iff.2 ⟨HOP.out, by rw [← HT8.out]; exact hes⟩
        have hesb : (T8.toList == s.toList) = true := by simpa using hes
        have HV9 : Hid (∀ x0 x1 x2 x3 x4 x5 W, (∀ k, w.heap.size ≤ k → k < (six6 w9 w.heap.size x0 x1 x2 x3 x4 x5).heap.size → W.heap[k]? = (six6 w9 w.heap.size x0 x1 x2 x3 x4 x5).heap[k]?) → DtsAt W (.slice none 0 0) ([])) := fun x0 x1 x2 x3 x4 x5 W hW => HV.out _ (fun k hk1 hk2 => (hW k (by omega) (by rw [six6_size]; exact Nat.lt_of_lt_of_le hk2 HS9.out)).trans ((six6_block _ _ _ _ _ _ _ _ _ (by omega)).trans (HK9.out k hk1 hk2)))
        clear hes
        go_wp2_with fail
        refine bodyPost_ret (v := .tuple #[opV ((a, b), t, P, 0, []) (.slice none 0 0), .bool true]) ?_ rfl ⟨_, by rw [HE.out]; rfl, by rw [HE.out]; exact fun W hW => ⟨_, rfl, HV9.out _ _ _ _ _ _ W hW⟩, ?_⟩
        · simp [results, Tryz.results63, opV, go_sem, asAddr, Result.andThen, r0, r1, r2, r3, r4, r5]
        · exact six6_below KB9.out (Nat.le_refl _) _ _ _ _ _ _
      · have HE : Hid (decB s.toList = none) := by
          unfold Hid decB
          split
          · rfl
          · rw [HX.out, if_neg (fun e => hes (HT8.out.trans e.2))]
        have hesb : (T8.toList == s.toList) = false := by simpa using hes
        clear hes
        go_wp2_with fail
        refine bodyPost_ret (v := .tuple #[opV oz (.slice none 0 0), .bool false]) ?_ rfl ⟨_, by rw [HE.out]; rfl, by rw [HE.out]; exact fun W _ => ⟨_, rfl, DtsAt.nil _⟩, ?_⟩
        · simp [results, Tryz.results63, opV, oz, go_sem, asAddr, Result.andThen, r0, r1, r2, r3, r4, r5]
          rfl
        · exact six6_below KB9.out (Nat.le_refl _) _ _ _ _ _ _
    · have t1b : (t == 1) = false := by simpa using t1
      clear t1
      by_cases t4 : t = 4
      · have t4b : (t == 4) = true := by simpa using t4
        clear t4
        go_enter Tryz.func63, Tryz.ntmps63
        go_wp2_with fail
        refine (CN _).mono ?_
        rintro e w5 ⟨rfl, hb5⟩
        obtain ⟨hr5, ho5, hbb5, hsz5⟩ := two_boxes hb5
        have KR5 : Hid (w5.heap[w.heap.size]? = some (.cells Z6 30 (0, 0))) := hr5
        have O : Hid (w5.heap[w.heap.size + 1]? = some (.cells #[.int .i64 a, .int .i64 0, .int .i64 t, .string ⟨#[]⟩, .int .i64 0, .slice none 0 0] 30 (0, 0))) := ho5
        have K5 : Hid (Below w.heap.size w w5) := hbb5
        have HZ5 : Hid (w.heap.size + 2 ≤ w5.heap.size) := hsz5
        clear hb5 hr5 ho5 hbb5 hsz5 CN
        have o0 : w5.cell? ⟨w.heap.size + 1, 0, none⟩ = some (.int .i64 a) := cell_of O.out rfl
        have o1 : w5.cell? ⟨w.heap.size + 1, 1, none⟩ = some (.int .i64 0) := cell_of O.out rfl
        have o2 : w5.cell? ⟨w.heap.size + 1, 2, none⟩ = some (.int .i64 t) := cell_of O.out rfl
        have o3 : w5.cell? ⟨w.heap.size + 1, 3, none⟩ = some (.string ⟨#[]⟩) := cell_of O.out rfl
        have o4 : w5.cell? ⟨w.heap.size + 1, 4, none⟩ = some (.int .i64 0) := cell_of O.out rfl
        have o5 : w5.cell? ⟨w.heap.size + 1, 5, none⟩ = some (.slice none 0 0) := cell_of O.out rfl
        have fo0 : w5.frozen? ⟨w.heap.size + 1, 0, none⟩ = false := free_of O.out
        have fo1 : w5.frozen? ⟨w.heap.size + 1, 1, none⟩ = false := free_of O.out
        have fo2 : w5.frozen? ⟨w.heap.size + 1, 2, none⟩ = false := free_of O.out
        have fo3 : w5.frozen? ⟨w.heap.size + 1, 3, none⟩ = false := free_of O.out
        have fo4 : w5.frozen? ⟨w.heap.size + 1, 4, none⟩ = false := free_of O.out
        have fo5 : w5.frozen? ⟨w.heap.size + 1, 5, none⟩ = false := free_of O.out
        go_wp2_with fail
        have KO5 : Hid ((((w5.setCell ⟨w.heap.size + 1, 1, none⟩ (.int .i64 b)).setCell ⟨w.heap.size + 1, 3, none⟩ (.string P))).heap[w.heap.size + 1]? = some (.cells #[.int .i64 a, .int .i64 b, .int .i64 t, .string P, .int .i64 0, .slice none 0 0] 30 (0, 0))) := setCell_heap (setCell_heap O.out)
        have KR7 : Hid ((((w5.setCell ⟨w.heap.size + 1, 1, none⟩ (.int .i64 b)).setCell ⟨w.heap.size + 1, 3, none⟩ (.string P))).heap[w.heap.size]? = some (.cells Z6 30 (0, 0))) := by unfold Hid; rw [set_block _ _ _ _ (by simp), set_block _ _ _ _ (by simp)]; exact KR5.out
        have K75 : Hid (Below w.heap.size w (((w5.setCell ⟨w.heap.size + 1, 1, none⟩ (.int .i64 b)).setCell ⟨w.heap.size + 1, 3, none⟩ (.string P)))) := (K5.out.setCell (p := ⟨w.heap.size + 1, 1, none⟩) (by simp) _).setCell (p := ⟨w.heap.size + 1, 3, none⟩) (by simp) _
        obtain ⟨w7, hw7⟩ : ∃ w7, w7 = ((w5.setCell ⟨w.heap.size + 1, 1, none⟩ (.int .i64 b)).setCell ⟨w.heap.size + 1, 3, none⟩ (.string P)) := ⟨_, rfl⟩
        rw [← hw7] at KO5 KR7 K75
        rw [← hw7]
        have KO := KO5
        have KR := KR7
        have K7 := K75
        have HV : Hid (∀ W, (∀ k, w.heap.size + 2 ≤ k → k < w7.heap.size → W.heap[k]? = w7.heap[k]?) → DtsAt W (.slice none 0 0) []) := fun W _ => DtsAt.nil W
        clear KO5 KR7 K75 KR5 K5 O o0 o1 o2 o3 o4 o5 fo0 fo1 fo2 fo3 fo4 fo5 hw7
        have CO := op_ref a b t P (0) (.slice none 0 0) ([]) w7 hPm (HV.out w7 (fun _ _ _ => rfl))
        by_cases hop : opE ((a, b), t, P, 0, []) = 0
        case neg =>
          have HE : Hid (decB s.toList = none) := by
            unfold Hid decB
            split
            · rfl
            · rw [HX.out, if_neg (fun e => hop e.1)]
          obtain ⟨q, hq⟩ : ∃ q, q = opE ((a, b), t, P, 0, []) := ⟨_, rfl⟩
          have hqn : (q != 0) = true := by rw [hq]; simpa using hop
          rw [← hq] at CO
          clear hq hop
          refine CO.mono ?_
          rintro e w8 ⟨rfl, hb8⟩
          have KB8 : Hid (Below w.heap.size w w8) := bel K7.out hb8
          have R : Hid (w8.heap[w.heap.size]? = some (.cells Z6 30 (0, 0))) := keep_heap hb8 KR.out
          have r0 : w8.cell? ⟨w.heap.size, 0, none⟩ = some (.int .i64 0) := cell_of R.out rfl
          have r1 : w8.cell? ⟨w.heap.size, 1, none⟩ = some (.int .i64 0) := cell_of R.out rfl
          have r2 : w8.cell? ⟨w.heap.size, 2, none⟩ = some (.int .i64 0) := cell_of R.out rfl
          have r3 : w8.cell? ⟨w.heap.size, 3, none⟩ = some (.string ⟨#[]⟩) := cell_of R.out rfl
          have r4 : w8.cell? ⟨w.heap.size, 4, none⟩ = some (.int .i64 0) := cell_of R.out rfl
          have r5 : w8.cell? ⟨w.heap.size, 5, none⟩ = some (.slice none 0 0) := cell_of R.out rfl
          have fr0 : w8.frozen? ⟨w.heap.size, 0, none⟩ = false := free_of R.out
          have fr1 : w8.frozen? ⟨w.heap.size, 1, none⟩ = false := free_of R.out
          have fr2 : w8.frozen? ⟨w.heap.size, 2, none⟩ = false := free_of R.out
          have fr3 : w8.frozen? ⟨w.heap.size, 3, none⟩ = false := free_of R.out
          have fr4 : w8.frozen? ⟨w.heap.size, 4, none⟩ = false := free_of R.out
          have fr5 : w8.frozen? ⟨w.heap.size, 5, none⟩ = false := free_of R.out
          clear hb8 CO
          go_wp2_with fail
          refine bodyPost_ret (v := .tuple #[opV oz (.slice none 0 0), .bool false]) ?_ rfl ⟨_, by rw [HE.out]; rfl, by rw [HE.out]; exact fun W _ => ⟨_, rfl, DtsAt.nil _⟩, ?_⟩
          · simp [results, Tryz.results63, opV, oz, go_sem, asAddr, Result.andThen, r0, r1, r2, r3, r4, r5]
            rfl
          · exact six6_below KB8.out (Nat.le_refl _) _ _ _ _ _ _
        rw [hop] at CO
        refine CO.mono ?_
        rintro e w8 ⟨rfl, hb8⟩
        have KB8 : Hid (Below w.heap.size w w8) := bel K7.out hb8
        have KR8 : Hid (w8.heap[w.heap.size]? = some (.cells Z6 30 (0, 0))) := keep_heap hb8 KR.out
        have O : Hid (w8.heap[w.heap.size + 1]? = some (.cells #[.int .i64 a, .int .i64 b, .int .i64 t, .string P, .int .i64 (0), .slice none 0 0] 30 (0, 0))) := keep_heap hb8 KO.out
        have HS8 : Hid (w7.heap.size ≤ w8.heap.size) := hb8.size
        have HK8 : Hid (∀ k, k < w7.heap.size → w8.heap[k]? = w7.heap[k]?) := hb8.block
        have o0 : w8.cell? ⟨w.heap.size + 1, 0, none⟩ = some (.int .i64 a) := cell_of O.out rfl
        have o1 : w8.cell? ⟨w.heap.size + 1, 1, none⟩ = some (.int .i64 b) := cell_of O.out rfl
        have o2 : w8.cell? ⟨w.heap.size + 1, 2, none⟩ = some (.int .i64 t) := cell_of O.out rfl
        have o3 : w8.cell? ⟨w.heap.size + 1, 3, none⟩ = some (.string P) := cell_of O.out rfl
        have o4 : w8.cell? ⟨w.heap.size + 1, 4, none⟩ = some (.int .i64 (0)) := cell_of O.out rfl
        have o5 : w8.cell? ⟨w.heap.size + 1, 5, none⟩ = some (.slice none 0 0) := cell_of O.out rfl
        have CB := bytes_ref a b t P (0) (.slice none 0 0) ([]) w8 (HV.out w8 (fun k _ hk => HK8.out k hk)) hop
        obtain ⟨T8, hT8⟩ : ∃ T8, T8 = bytesS ((a, b), t, P, 0, []) := ⟨_, rfl⟩
        rw [← hT8] at CB
        have HT8 : Hid (T8.toList = bytesB ((a, b), t, P, 0, [])) := by unfold Hid; rw [hT8, bytesS_list]
        have HOP : Hid (opE ((a, b), t, P, 0, []) = 0) := hop
        clear hb8 CO hT8 hop
        go_wp2_with fail
        refine CB.mono ?_
        rintro e w9 ⟨rfl, hb9⟩
        have KB9 : Hid (Below w.heap.size w w9) := bel KB8.out hb9
        have R : Hid (w9.heap[w.heap.size]? = some (.cells Z6 30 (0, 0))) := keep_heap hb9 KR8.out
        have r0 : w9.cell? ⟨w.heap.size, 0, none⟩ = some (.int .i64 0) := cell_of R.out rfl
        have r1 : w9.cell? ⟨w.heap.size, 1, none⟩ = some (.int .i64 0) := cell_of R.out rfl
        have r2 : w9.cell? ⟨w.heap.size, 2, none⟩ = some (.int .i64 0) := cell_of R.out rfl
        have r3 : w9.cell? ⟨w.heap.size, 3, none⟩ = some (.string ⟨#[]⟩) := cell_of R.out rfl
        have r4 : w9.cell? ⟨w.heap.size, 4, none⟩ = some (.int .i64 0) := cell_of R.out rfl
        have r5 : w9.cell? ⟨w.heap.size, 5, none⟩ = some (.slice none 0 0) := cell_of R.out rfl
        have fr0 : w9.frozen? ⟨w.heap.size, 0, none⟩ = false := free_of R.out
        have fr1 : w9.frozen? ⟨w.heap.size, 1, none⟩ = false := free_of R.out
        have fr2 : w9.frozen? ⟨w.heap.size, 2, none⟩ = false := free_of R.out
        have fr3 : w9.frozen? ⟨w.heap.size, 3, none⟩ = false := free_of R.out
        have fr4 : w9.frozen? ⟨w.heap.size, 4, none⟩ = false := free_of R.out
        have fr5 : w9.frozen? ⟨w.heap.size, 5, none⟩ = false := free_of R.out
        have KO9 : Hid (w9.heap[w.heap.size + 1]? = some (.cells #[.int .i64 a, .int .i64 b, .int .i64 t, .string P, .int .i64 (0), .slice none 0 0] 30 (0, 0))) := keep_heap hb9 O.out
        have HK9 : Hid (∀ k, w.heap.size + 2 ≤ k → k < w7.heap.size → w9.heap[k]? = w7.heap[k]?) := fun k _ hk => (hb9.block k (Nat.lt_of_lt_of_le hk HS8.out)).trans (HK8.out k hk)
        have HS9 : Hid (w7.heap.size ≤ w9.heap.size) := Nat.le_trans HS8.out hb9.size
        clear o0 o1 o2 o3 o4 o5
        have x0 : w9.cell? ⟨w.heap.size + 1, 0, none⟩ = some (.int .i64 a) := cell_of KO9.out rfl
        have x1 : w9.cell? ⟨w.heap.size + 1, 1, none⟩ = some (.int .i64 b) := cell_of KO9.out rfl
        have x2 : w9.cell? ⟨w.heap.size + 1, 2, none⟩ = some (.int .i64 t) := cell_of KO9.out rfl
        have x3 : w9.cell? ⟨w.heap.size + 1, 3, none⟩ = some (.string P) := cell_of KO9.out rfl
        have x4 : w9.cell? ⟨w.heap.size + 1, 4, none⟩ = some (.int .i64 (0)) := cell_of KO9.out rfl
        have x5 : w9.cell? ⟨w.heap.size + 1, 5, none⟩ = some (.slice none 0 0) := cell_of KO9.out rfl
        clear CB hb9
        by_cases hes : T8.toList = s.toList
        · have HE : Hid (decB s.toList = some ((a, b), t, P, 0, [])) := decB_iff.2 ⟨HOP.out, by rw [← HT8.out]; exact hes⟩
          have hesb : (T8.toList == s.toList) = true := by simpa using hes
          have HV9 : Hid (∀ x0 x1 x2 x3 x4 x5 W, (∀ k, w.heap.size ≤ k → k < (six6 w9 w.heap.size x0 x1 x2 x3 x4 x5).heap.size → W.heap[k]? = (six6 w9 w.heap.size x0 x1 x2 x3 x4 x5).heap[k]?) → DtsAt W (.slice none 0 0) ([])) := fun x0 x1 x2 x3 x4 x5 W hW => HV.out _ (fun k hk1 hk2 => (hW k (by omega) (by rw [six6_size]; exact Nat.lt_of_lt_of_le hk2 HS9.out)).trans ((six6_block _ _ _ _ _ _ _ _ _ (by omega)).trans (HK9.out k hk1 hk2)))
          clear hes
          go_wp2_with fail
          refine bodyPost_ret (v := .tuple #[opV ((a, b), t, P, 0, []) (.slice none 0 0), .bool true]) ?_ rfl ⟨_, by rw [HE.out]; rfl, by rw [HE.out]; exact fun W hW => ⟨_, rfl, HV9.out _ _ _ _ _ _ W hW⟩, ?_⟩
          · simp [results, Tryz.results63, opV, go_sem, asAddr, Result.andThen, r0, r1, r2, r3, r4, r5]
          · exact six6_below KB9.out (Nat.le_refl _) _ _ _ _ _ _
        · have HE : Hid (decB s.toList = none) := by
            unfold Hid decB
            split
            · rfl
            · rw [HX.out, if_neg (fun e => hes (HT8.out.trans e.2))]
          have hesb : (T8.toList == s.toList) = false := by simpa using hes
          clear hes
          go_wp2_with fail
          refine bodyPost_ret (v := .tuple #[opV oz (.slice none 0 0), .bool false]) ?_ rfl ⟨_, by rw [HE.out]; rfl, by rw [HE.out]; exact fun W _ => ⟨_, rfl, DtsAt.nil _⟩, ?_⟩
          · simp [results, Tryz.results63, opV, oz, go_sem, asAddr, Result.andThen, r0, r1, r2, r3, r4, r5]
            rfl
          · exact six6_below KB9.out (Nat.le_refl _) _ _ _ _ _ _
      · have t4b : (t == 4) = false := by simpa using t4
        clear t4
        go_enter Tryz.func63, Tryz.ntmps63
        go_wp2_with fail
        refine (CN _).mono ?_
        rintro e w5 ⟨rfl, hb5⟩
        obtain ⟨hr5, ho5, hbb5, hsz5⟩ := two_boxes hb5
        have KR5 : Hid (w5.heap[w.heap.size]? = some (.cells Z6 30 (0, 0))) := hr5
        have O : Hid (w5.heap[w.heap.size + 1]? = some (.cells #[.int .i64 a, .int .i64 0, .int .i64 t, .string ⟨#[]⟩, .int .i64 0, .slice none 0 0] 30 (0, 0))) := ho5
        have K5 : Hid (Below w.heap.size w w5) := hbb5
        have HZ5 : Hid (w.heap.size + 2 ≤ w5.heap.size) := hsz5
        clear hb5 hr5 ho5 hbb5 hsz5 CN
        have o0 : w5.cell? ⟨w.heap.size + 1, 0, none⟩ = some (.int .i64 a) := cell_of O.out rfl
        have o1 : w5.cell? ⟨w.heap.size + 1, 1, none⟩ = some (.int .i64 0) := cell_of O.out rfl
        have o2 : w5.cell? ⟨w.heap.size + 1, 2, none⟩ = some (.int .i64 t) := cell_of O.out rfl
        have o3 : w5.cell? ⟨w.heap.size + 1, 3, none⟩ = some (.string ⟨#[]⟩) := cell_of O.out rfl
        have o4 : w5.cell? ⟨w.heap.size + 1, 4, none⟩ = some (.int .i64 0) := cell_of O.out rfl
        have o5 : w5.cell? ⟨w.heap.size + 1, 5, none⟩ = some (.slice none 0 0) := cell_of O.out rfl
        have fo0 : w5.frozen? ⟨w.heap.size + 1, 0, none⟩ = false := free_of O.out
        have fo1 : w5.frozen? ⟨w.heap.size + 1, 1, none⟩ = false := free_of O.out
        have fo2 : w5.frozen? ⟨w.heap.size + 1, 2, none⟩ = false := free_of O.out
        have fo3 : w5.frozen? ⟨w.heap.size + 1, 3, none⟩ = false := free_of O.out
        have fo4 : w5.frozen? ⟨w.heap.size + 1, 4, none⟩ = false := free_of O.out
        have fo5 : w5.frozen? ⟨w.heap.size + 1, 5, none⟩ = false := free_of O.out
        go_wp2_with fail
        have KO5 : Hid ((((w5.setCell ⟨w.heap.size + 1, 1, none⟩ (.int .i64 b)).setCell ⟨w.heap.size + 1, 3, none⟩ (.string P))).heap[w.heap.size + 1]? = some (.cells #[.int .i64 a, .int .i64 b, .int .i64 t, .string P, .int .i64 0, .slice none 0 0] 30 (0, 0))) := setCell_heap (setCell_heap O.out)
        have KR7 : Hid ((((w5.setCell ⟨w.heap.size + 1, 1, none⟩ (.int .i64 b)).setCell ⟨w.heap.size + 1, 3, none⟩ (.string P))).heap[w.heap.size]? = some (.cells Z6 30 (0, 0))) := by unfold Hid; rw [set_block _ _ _ _ (by simp), set_block _ _ _ _ (by simp)]; exact KR5.out
        have K75 : Hid (Below w.heap.size w (((w5.setCell ⟨w.heap.size + 1, 1, none⟩ (.int .i64 b)).setCell ⟨w.heap.size + 1, 3, none⟩ (.string P)))) := (K5.out.setCell (p := ⟨w.heap.size + 1, 1, none⟩) (by simp) _).setCell (p := ⟨w.heap.size + 1, 3, none⟩) (by simp) _
        obtain ⟨w7, hw7⟩ : ∃ w7, w7 = ((w5.setCell ⟨w.heap.size + 1, 1, none⟩ (.int .i64 b)).setCell ⟨w.heap.size + 1, 3, none⟩ (.string P)) := ⟨_, rfl⟩
        rw [← hw7] at KO5 KR7 K75
        rw [← hw7]
        have KO := KO5
        have KR := KR7
        have K7 := K75
        have HV : Hid (∀ W, (∀ k, w.heap.size + 2 ≤ k → k < w7.heap.size → W.heap[k]? = w7.heap[k]?) → DtsAt W (.slice none 0 0) []) := fun W _ => DtsAt.nil W
        clear KO5 KR7 K75 KR5 K5 O o0 o1 o2 o3 o4 o5 fo0 fo1 fo2 fo3 fo4 fo5 hw7
        have CO := op_ref a b t P (0) (.slice none 0 0) ([]) w7 hPm (HV.out w7 (fun _ _ _ => rfl))
        by_cases hop : opE ((a, b), t, P, 0, []) = 0
        case neg =>
          have HE : Hid (decB s.toList = none) := by
            unfold Hid decB
            split
            · rfl
            · rw [HX.out, if_neg (fun e => hop e.1)]
          obtain ⟨q, hq⟩ : ∃ q, q = opE ((a, b), t, P, 0, []) := ⟨_, rfl⟩
          have hqn : (q != 0) = true := by rw [hq]; simpa using hop
          rw [← hq] at CO
          clear hq hop
          refine CO.mono ?_
          rintro e w8 ⟨rfl, hb8⟩
          have KB8 : Hid (Below w.heap.size w w8) := bel K7.out hb8
          have R : Hid (w8.heap[w.heap.size]? = some (.cells Z6 30 (0, 0))) := keep_heap hb8 KR.out
          have r0 : w8.cell? ⟨w.heap.size, 0, none⟩ = some (.int .i64 0) := cell_of R.out rfl
          have r1 : w8.cell? ⟨w.heap.size, 1, none⟩ = some (.int .i64 0) := cell_of R.out rfl
          have r2 : w8.cell? ⟨w.heap.size, 2, none⟩ = some (.int .i64 0) := cell_of R.out rfl
          have r3 : w8.cell? ⟨w.heap.size, 3, none⟩ = some (.string ⟨#[]⟩) := cell_of R.out rfl
          have r4 : w8.cell? ⟨w.heap.size, 4, none⟩ = some (.int .i64 0) := cell_of R.out rfl
          have r5 : w8.cell? ⟨w.heap.size, 5, none⟩ = some (.slice none 0 0) := cell_of R.out rfl
          have fr0 : w8.frozen? ⟨w.heap.size, 0, none⟩ = false := free_of R.out
          have fr1 : w8.frozen? ⟨w.heap.size, 1, none⟩ = false := free_of R.out
          have fr2 : w8.frozen? ⟨w.heap.size, 2, none⟩ = false := free_of R.out
          have fr3 : w8.frozen? ⟨w.heap.size, 3, none⟩ = false := free_of R.out
          have fr4 : w8.frozen? ⟨w.heap.size, 4, none⟩ = false := free_of R.out
          have fr5 : w8.frozen? ⟨w.heap.size, 5, none⟩ = false := free_of R.out
          clear hb8 CO
          go_wp2_with fail
          refine bodyPost_ret (v := .tuple #[opV oz (.slice none 0 0), .bool false]) ?_ rfl ⟨_, by rw [HE.out]; rfl, by rw [HE.out]; exact fun W _ => ⟨_, rfl, DtsAt.nil _⟩, ?_⟩
          · simp [results, Tryz.results63, opV, oz, go_sem, asAddr, Result.andThen, r0, r1, r2, r3, r4, r5]
            rfl
          · exact six6_below KB8.out (Nat.le_refl _) _ _ _ _ _ _
        rw [hop] at CO
        refine CO.mono ?_
        rintro e w8 ⟨rfl, hb8⟩
        have KB8 : Hid (Below w.heap.size w w8) := bel K7.out hb8
        have KR8 : Hid (w8.heap[w.heap.size]? = some (.cells Z6 30 (0, 0))) := keep_heap hb8 KR.out
        have O : Hid (w8.heap[w.heap.size + 1]? = some (.cells #[.int .i64 a, .int .i64 b, .int .i64 t, .string P, .int .i64 (0), .slice none 0 0] 30 (0, 0))) := keep_heap hb8 KO.out
        have HS8 : Hid (w7.heap.size ≤ w8.heap.size) := hb8.size
        have HK8 : Hid (∀ k, k < w7.heap.size → w8.heap[k]? = w7.heap[k]?) := hb8.block
        have o0 : w8.cell? ⟨w.heap.size + 1, 0, none⟩ = some (.int .i64 a) := cell_of O.out rfl
        have o1 : w8.cell? ⟨w.heap.size + 1, 1, none⟩ = some (.int .i64 b) := cell_of O.out rfl
        have o2 : w8.cell? ⟨w.heap.size + 1, 2, none⟩ = some (.int .i64 t) := cell_of O.out rfl
        have o3 : w8.cell? ⟨w.heap.size + 1, 3, none⟩ = some (.string P) := cell_of O.out rfl
        have o4 : w8.cell? ⟨w.heap.size + 1, 4, none⟩ = some (.int .i64 (0)) := cell_of O.out rfl
        have o5 : w8.cell? ⟨w.heap.size + 1, 5, none⟩ = some (.slice none 0 0) := cell_of O.out rfl
        have CB := bytes_ref a b t P (0) (.slice none 0 0) ([]) w8 (HV.out w8 (fun k _ hk => HK8.out k hk)) hop
        obtain ⟨T8, hT8⟩ : ∃ T8, T8 = bytesS ((a, b), t, P, 0, []) := ⟨_, rfl⟩
        rw [← hT8] at CB
        have HT8 : Hid (T8.toList = bytesB ((a, b), t, P, 0, [])) := by unfold Hid; rw [hT8, bytesS_list]
        have HOP : Hid (opE ((a, b), t, P, 0, []) = 0) := hop
        clear hb8 CO hT8 hop
        go_wp2_with fail
        refine CB.mono ?_
        rintro e w9 ⟨rfl, hb9⟩
        have KB9 : Hid (Below w.heap.size w w9) := bel KB8.out hb9
        have R : Hid (w9.heap[w.heap.size]? = some (.cells Z6 30 (0, 0))) := keep_heap hb9 KR8.out
        have r0 : w9.cell? ⟨w.heap.size, 0, none⟩ = some (.int .i64 0) := cell_of R.out rfl
        have r1 : w9.cell? ⟨w.heap.size, 1, none⟩ = some (.int .i64 0) := cell_of R.out rfl
        have r2 : w9.cell? ⟨w.heap.size, 2, none⟩ = some (.int .i64 0) := cell_of R.out rfl
        have r3 : w9.cell? ⟨w.heap.size, 3, none⟩ = some (.string ⟨#[]⟩) := cell_of R.out rfl
        have r4 : w9.cell? ⟨w.heap.size, 4, none⟩ = some (.int .i64 0) := cell_of R.out rfl
        have r5 : w9.cell? ⟨w.heap.size, 5, none⟩ = some (.slice none 0 0) := cell_of R.out rfl
        have fr0 : w9.frozen? ⟨w.heap.size, 0, none⟩ = false := free_of R.out
        have fr1 : w9.frozen? ⟨w.heap.size, 1, none⟩ = false := free_of R.out
        have fr2 : w9.frozen? ⟨w.heap.size, 2, none⟩ = false := free_of R.out
        have fr3 : w9.frozen? ⟨w.heap.size, 3, none⟩ = false := free_of R.out
        have fr4 : w9.frozen? ⟨w.heap.size, 4, none⟩ = false := free_of R.out
        have fr5 : w9.frozen? ⟨w.heap.size, 5, none⟩ = false := free_of R.out
        have KO9 : Hid (w9.heap[w.heap.size + 1]? = some (.cells #[.int .i64 a, .int .i64 b, .int .i64 t, .string P, .int .i64 (0), .slice none 0 0] 30 (0, 0))) := keep_heap hb9 O.out
        have HK9 : Hid (∀ k, w.heap.size + 2 ≤ k → k < w7.heap.size → w9.heap[k]? = w7.heap[k]?) := fun k _ hk => (hb9.block k (Nat.lt_of_lt_of_le hk HS8.out)).trans (HK8.out k hk)
        have HS9 : Hid (w7.heap.size ≤ w9.heap.size) := Nat.le_trans HS8.out hb9.size
        clear o0 o1 o2 o3 o4 o5
        have x0 : w9.cell? ⟨w.heap.size + 1, 0, none⟩ = some (.int .i64 a) := cell_of KO9.out rfl
        have x1 : w9.cell? ⟨w.heap.size + 1, 1, none⟩ = some (.int .i64 b) := cell_of KO9.out rfl
        have x2 : w9.cell? ⟨w.heap.size + 1, 2, none⟩ = some (.int .i64 t) := cell_of KO9.out rfl
        have x3 : w9.cell? ⟨w.heap.size + 1, 3, none⟩ = some (.string P) := cell_of KO9.out rfl
        have x4 : w9.cell? ⟨w.heap.size + 1, 4, none⟩ = some (.int .i64 (0)) := cell_of KO9.out rfl
        have x5 : w9.cell? ⟨w.heap.size + 1, 5, none⟩ = some (.slice none 0 0) := cell_of KO9.out rfl
        clear CB hb9
        by_cases hes : T8.toList = s.toList
        · have HE : Hid (decB s.toList = some ((a, b), t, P, 0, [])) := decB_iff.2 ⟨HOP.out, by rw [← HT8.out]; exact hes⟩
          have hesb : (T8.toList == s.toList) = true := by simpa using hes
          have HV9 : Hid (∀ x0 x1 x2 x3 x4 x5 W, (∀ k, w.heap.size ≤ k → k < (six6 w9 w.heap.size x0 x1 x2 x3 x4 x5).heap.size → W.heap[k]? = (six6 w9 w.heap.size x0 x1 x2 x3 x4 x5).heap[k]?) → DtsAt W (.slice none 0 0) ([])) := fun x0 x1 x2 x3 x4 x5 W hW => HV.out _ (fun k hk1 hk2 => (hW k (by omega) (by rw [six6_size]; exact Nat.lt_of_lt_of_le hk2 HS9.out)).trans ((six6_block _ _ _ _ _ _ _ _ _ (by omega)).trans (HK9.out k hk1 hk2)))
          clear hes
          go_wp2_with fail
          refine bodyPost_ret (v := .tuple #[opV ((a, b), t, P, 0, []) (.slice none 0 0), .bool true]) ?_ rfl ⟨_, by rw [HE.out]; rfl, by rw [HE.out]; exact fun W hW => ⟨_, rfl, HV9.out _ _ _ _ _ _ W hW⟩, ?_⟩
          · simp [results, Tryz.results63, opV, go_sem, asAddr, Result.andThen, r0, r1, r2, r3, r4, r5]
          · exact six6_below KB9.out (Nat.le_refl _) _ _ _ _ _ _
        · have HE : Hid (decB s.toList = none) := by
            unfold Hid decB
            split
            · rfl
            · rw [HX.out, if_neg (fun e => hes (HT8.out.trans e.2))]
          have hesb : (T8.toList == s.toList) = false := by simpa using hes
          clear hes
          go_wp2_with fail
          refine bodyPost_ret (v := .tuple #[opV oz (.slice none 0 0), .bool false]) ?_ rfl ⟨_, by rw [HE.out]; rfl, by rw [HE.out]; exact fun W _ => ⟨_, rfl, DtsAt.nil _⟩, ?_⟩
          · simp [results, Tryz.results63, opV, oz, go_sem, asAddr, Result.andThen, r0, r1, r2, r3, r4, r5]
            rfl
          · exact six6_below KB9.out (Nat.le_refl _) _ _ _ _ _ _
  have hr1 : 0 < R0.size := by omega
  have hrz : (0 : Int) < R0.size := by omega
  have hrb : R0[0].toNat < 256 := UInt8.toNat_lt _
  have hR0 := at_list R0 0 hr1
  by_cases t1 : t = 1
  · have t1b : (t == 1) = true := by simpa using t1
    have t4b : (t == 4) = false := by rw [t1]; rfl
    obtain ⟨c, hc⟩ : ∃ c : Int, (R0[0].toNat : Int) = c := ⟨_, rfl⟩
    have HX : Hid (readB s.toList = ((a, b), t, P, c, [])) := by
      unfold Hid; rw [HRD]; unfold letterIn seenIn
      rw [if_pos t1, if_neg (by rw [t1]; decide), ← head_at, hR0, hc]
    clear HRD hR0 t1
    go_enter Tryz.func63, Tryz.ntmps63
    go_wp2_with fail
    refine (CN _).mono ?_
    rintro e w5 ⟨rfl, hb5⟩
    obtain ⟨hr5, ho5, hbb5, hsz5⟩ := two_boxes hb5
    have KR5 : Hid (w5.heap[w.heap.size]? = some (.cells Z6 30 (0, 0))) := hr5
    have O : Hid (w5.heap[w.heap.size + 1]? = some (.cells #[.int .i64 a, .int .i64 0, .int .i64 t, .string ⟨#[]⟩, .int .i64 0, .slice none 0 0] 30 (0, 0))) := ho5
    have K5 : Hid (Below w.heap.size w w5) := hbb5
    have HZ5 : Hid (w.heap.size + 2 ≤ w5.heap.size) := hsz5
    clear hb5 hr5 ho5 hbb5 hsz5 CN
    have o0 : w5.cell? ⟨w.heap.size + 1, 0, none⟩ = some (.int .i64 a) := cell_of O.out rfl
    have o1 : w5.cell? ⟨w.heap.size + 1, 1, none⟩ = some (.int .i64 0) := cell_of O.out rfl
    have o2 : w5.cell? ⟨w.heap.size + 1, 2, none⟩ = some (.int .i64 t) := cell_of O.out rfl
    have o3 : w5.cell? ⟨w.heap.size + 1, 3, none⟩ = some (.string ⟨#[]⟩) := cell_of O.out rfl
    have o4 : w5.cell? ⟨w.heap.size + 1, 4, none⟩ = some (.int .i64 0) := cell_of O.out rfl
    have o5 : w5.cell? ⟨w.heap.size + 1, 5, none⟩ = some (.slice none 0 0) := cell_of O.out rfl
    have fo0 : w5.frozen? ⟨w.heap.size + 1, 0, none⟩ = false := free_of O.out
    have fo1 : w5.frozen? ⟨w.heap.size + 1, 1, none⟩ = false := free_of O.out
    have fo2 : w5.frozen? ⟨w.heap.size + 1, 2, none⟩ = false := free_of O.out
    have fo3 : w5.frozen? ⟨w.heap.size + 1, 3, none⟩ = false := free_of O.out
    have fo4 : w5.frozen? ⟨w.heap.size + 1, 4, none⟩ = false := free_of O.out
    have fo5 : w5.frozen? ⟨w.heap.size + 1, 5, none⟩ = false := free_of O.out
    go_wp2_with fail
    have KO5 : Hid (((((w5.setCell ⟨w.heap.size + 1, 1, none⟩ (.int .i64 b)).setCell ⟨w.heap.size + 1, 3, none⟩ (.string P)).setCell ⟨w.heap.size + 1, 4, none⟩ (.int .i64 c))).heap[w.heap.size + 1]? = some (.cells #[.int .i64 a, .int .i64 b, .int .i64 t, .string P, .int .i64 c, .slice none 0 0] 30 (0, 0))) := setCell_heap (setCell_heap (setCell_heap O.out))
    have KR7 : Hid (((((w5.setCell ⟨w.heap.size + 1, 1, none⟩ (.int .i64 b)).setCell ⟨w.heap.size + 1, 3, none⟩ (.string P)).setCell ⟨w.heap.size + 1, 4, none⟩ (.int .i64 c))).heap[w.heap.size]? = some (.cells Z6 30 (0, 0))) := by unfold Hid; rw [set_block _ _ _ _ (by simp), set_block _ _ _ _ (by simp), set_block _ _ _ _ (by simp)]; exact KR5.out
    have K75 : Hid (Below w.heap.size w ((((w5.setCell ⟨w.heap.size + 1, 1, none⟩ (.int .i64 b)).setCell ⟨w.heap.size + 1, 3, none⟩ (.string P)).setCell ⟨w.heap.size + 1, 4, none⟩ (.int .i64 c)))) := ((K5.out.setCell (p := ⟨w.heap.size + 1, 1, none⟩) (by simp) _).setCell (p := ⟨w.heap.size + 1, 3, none⟩) (by simp) _).setCell (p := ⟨w.heap.size + 1, 4, none⟩) (by simp) _
    obtain ⟨w7, hw7⟩ : ∃ w7, w7 = (((w5.setCell ⟨w.heap.size + 1, 1, none⟩ (.int .i64 b)).setCell ⟨w.heap.size + 1, 3, none⟩ (.string P)).setCell ⟨w.heap.size + 1, 4, none⟩ (.int .i64 c)) := ⟨_, rfl⟩
    rw [← hw7] at KO5 KR7 K75
    rw [← hw7]
    have KO := KO5
    have KR := KR7
    have K7 := K75
    have HV : Hid (∀ W, (∀ k, w.heap.size + 2 ≤ k → k < w7.heap.size → W.heap[k]? = w7.heap[k]?) → DtsAt W (.slice none 0 0) []) := fun W _ => DtsAt.nil W
    clear KO5 KR7 K75 KR5 K5 O o0 o1 o2 o3 o4 o5 fo0 fo1 fo2 fo3 fo4 fo5 hw7
    have CO := op_ref a b t P (c) (.slice none 0 0) ([]) w7 hPm (HV.out w7 (fun _ _ _ => rfl))
    by_cases hop : opE ((a, b), t, P, c, []) = 0
    case neg =>
      have HE : Hid (decB s.toList = none) := by
        unfold Hid decB
        split
        · rfl
        · rw [HX.out, if_neg (fun e => hop e.1)]
      obtain ⟨q, hq⟩ : ∃ q, q = opE ((a, b), t, P, c, []) := ⟨_, rfl⟩
      have hqn : (q != 0) = true := by rw [hq]; simpa using hop
      rw [← hq] at CO
      clear hq hop
      refine CO.mono ?_
      rintro e w8 ⟨rfl, hb8⟩
      have KB8 : Hid (Below w.heap.size w w8) := bel K7.out hb8
      have R : Hid (w8.heap[w.heap.size]? = some (.cells Z6 30 (0, 0))) := keep_heap hb8 KR.out
      have r0 : w8.cell? ⟨w.heap.size, 0, none⟩ = some (.int .i64 0) := cell_of R.out rfl
      have r1 : w8.cell? ⟨w.heap.size, 1, none⟩ = some (.int .i64 0) := cell_of R.out rfl
      have r2 : w8.cell? ⟨w.heap.size, 2, none⟩ = some (.int .i64 0) := cell_of R.out rfl
      have r3 : w8.cell? ⟨w.heap.size, 3, none⟩ = some (.string ⟨#[]⟩) := cell_of R.out rfl
      have r4 : w8.cell? ⟨w.heap.size, 4, none⟩ = some (.int .i64 0) := cell_of R.out rfl
      have r5 : w8.cell? ⟨w.heap.size, 5, none⟩ = some (.slice none 0 0) := cell_of R.out rfl
      have fr0 : w8.frozen? ⟨w.heap.size, 0, none⟩ = false := free_of R.out
      have fr1 : w8.frozen? ⟨w.heap.size, 1, none⟩ = false := free_of R.out
      have fr2 : w8.frozen? ⟨w.heap.size, 2, none⟩ = false := free_of R.out
      have fr3 : w8.frozen? ⟨w.heap.size, 3, none⟩ = false := free_of R.out
      have fr4 : w8.frozen? ⟨w.heap.size, 4, none⟩ = false := free_of R.out
      have fr5 : w8.frozen? ⟨w.heap.size, 5, none⟩ = false := free_of R.out
      clear hb8 CO
      go_wp2_with fail
      refine bodyPost_ret (v := .tuple #[opV oz (.slice none 0 0), .bool false]) ?_ rfl ⟨_, by rw [HE.out]; rfl, by rw [HE.out]; exact fun W _ => ⟨_, rfl, DtsAt.nil _⟩, ?_⟩
      · simp [results, Tryz.results63, opV, oz, go_sem, asAddr, Result.andThen, r0, r1, r2, r3, r4, r5]
        rfl
      · exact six6_below KB8.out (Nat.le_refl _) _ _ _ _ _ _
    rw [hop] at CO
    refine CO.mono ?_
    rintro e w8 ⟨rfl, hb8⟩
    have KB8 : Hid (Below w.heap.size w w8) := bel K7.out hb8
    have KR8 : Hid (w8.heap[w.heap.size]? = some (.cells Z6 30 (0, 0))) := keep_heap hb8 KR.out
    have O : Hid (w8.heap[w.heap.size + 1]? = some (.cells #[.int .i64 a, .int .i64 b, .int .i64 t, .string P, .int .i64 (c), .slice none 0 0] 30 (0, 0))) := keep_heap hb8 KO.out
    have HS8 : Hid (w7.heap.size ≤ w8.heap.size) := hb8.size
    have HK8 : Hid (∀ k, k < w7.heap.size → w8.heap[k]? = w7.heap[k]?) := hb8.block
    have o0 : w8.cell? ⟨w.heap.size + 1, 0, none⟩ = some (.int .i64 a) := cell_of O.out rfl
    have o1 : w8.cell? ⟨w.heap.size + 1, 1, none⟩ = some (.int .i64 b) := cell_of O.out rfl
    have o2 : w8.cell? ⟨w.heap.size + 1, 2, none⟩ = some (.int .i64 t) := cell_of O.out rfl
    have o3 : w8.cell? ⟨w.heap.size + 1, 3, none⟩ = some (.string P) := cell_of O.out rfl
    have o4 : w8.cell? ⟨w.heap.size + 1, 4, none⟩ = some (.int .i64 (c)) := cell_of O.out rfl
    have o5 : w8.cell? ⟨w.heap.size + 1, 5, none⟩ = some (.slice none 0 0) := cell_of O.out rfl
    have CB := bytes_ref a b t P (c) (.slice none 0 0) ([]) w8 (HV.out w8 (fun k _ hk => HK8.out k hk)) hop
    obtain ⟨T8, hT8⟩ : ∃ T8, T8 = bytesS ((a, b), t, P, c, []) := ⟨_, rfl⟩
    rw [← hT8] at CB
    have HT8 : Hid (T8.toList = bytesB ((a, b), t, P, c, [])) := by unfold Hid; rw [hT8, bytesS_list]
    have HOP : Hid (opE ((a, b), t, P, c, []) = 0) := hop
    clear hb8 CO hT8 hop
    go_wp2_with fail
    refine CB.mono ?_
    rintro e w9 ⟨rfl, hb9⟩
    have KB9 : Hid (Below w.heap.size w w9) := bel KB8.out hb9
    have R : Hid (w9.heap[w.heap.size]? = some (.cells Z6 30 (0, 0))) := keep_heap hb9 KR8.out
    have r0 : w9.cell? ⟨w.heap.size, 0, none⟩ = some (.int .i64 0) := cell_of R.out rfl
    have r1 : w9.cell? ⟨w.heap.size, 1, none⟩ = some (.int .i64 0) := cell_of R.out rfl
    have r2 : w9.cell? ⟨w.heap.size, 2, none⟩ = some (.int .i64 0) := cell_of R.out rfl
    have r3 : w9.cell? ⟨w.heap.size, 3, none⟩ = some (.string ⟨#[]⟩) := cell_of R.out rfl
    have r4 : w9.cell? ⟨w.heap.size, 4, none⟩ = some (.int .i64 0) := cell_of R.out rfl
    have r5 : w9.cell? ⟨w.heap.size, 5, none⟩ = some (.slice none 0 0) := cell_of R.out rfl
    have fr0 : w9.frozen? ⟨w.heap.size, 0, none⟩ = false := free_of R.out
    have fr1 : w9.frozen? ⟨w.heap.size, 1, none⟩ = false := free_of R.out
    have fr2 : w9.frozen? ⟨w.heap.size, 2, none⟩ = false := free_of R.out
    have fr3 : w9.frozen? ⟨w.heap.size, 3, none⟩ = false := free_of R.out
    have fr4 : w9.frozen? ⟨w.heap.size, 4, none⟩ = false := free_of R.out
    have fr5 : w9.frozen? ⟨w.heap.size, 5, none⟩ = false := free_of R.out
    have KO9 : Hid (w9.heap[w.heap.size + 1]? = some (.cells #[.int .i64 a, .int .i64 b, .int .i64 t, .string P, .int .i64 (c), .slice none 0 0] 30 (0, 0))) := keep_heap hb9 O.out
    have HK9 : Hid (∀ k, w.heap.size + 2 ≤ k → k < w7.heap.size → w9.heap[k]? = w7.heap[k]?) := fun k _ hk => (hb9.block k (Nat.lt_of_lt_of_le hk HS8.out)).trans (HK8.out k hk)
    have HS9 : Hid (w7.heap.size ≤ w9.heap.size) := Nat.le_trans HS8.out hb9.size
    clear o0 o1 o2 o3 o4 o5
    have x0 : w9.cell? ⟨w.heap.size + 1, 0, none⟩ = some (.int .i64 a) := cell_of KO9.out rfl
    have x1 : w9.cell? ⟨w.heap.size + 1, 1, none⟩ = some (.int .i64 b) := cell_of KO9.out rfl
    have x2 : w9.cell? ⟨w.heap.size + 1, 2, none⟩ = some (.int .i64 t) := cell_of KO9.out rfl
    have x3 : w9.cell? ⟨w.heap.size + 1, 3, none⟩ = some (.string P) := cell_of KO9.out rfl
    have x4 : w9.cell? ⟨w.heap.size + 1, 4, none⟩ = some (.int .i64 (c)) := cell_of KO9.out rfl
    have x5 : w9.cell? ⟨w.heap.size + 1, 5, none⟩ = some (.slice none 0 0) := cell_of KO9.out rfl
    clear CB hb9
    by_cases hes : T8.toList = s.toList
    · have HE : Hid (decB s.toList = some ((a, b), t, P, c, [])) := decB_iff.2 ⟨HOP.out, by rw [← HT8.out]; exact hes⟩
      have hesb : (T8.toList == s.toList) = true := by simpa using hes
      have HV9 : Hid (∀ x0 x1 x2 x3 x4 x5 W, (∀ k, w.heap.size ≤ k → k < (six6 w9 w.heap.size x0 x1 x2 x3 x4 x5).heap.size → W.heap[k]? = (six6 w9 w.heap.size x0 x1 x2 x3 x4 x5).heap[k]?) → DtsAt W (.slice none 0 0) ([])) := fun x0 x1 x2 x3 x4 x5 W hW => HV.out _ (fun k hk1 hk2 => (hW k (by omega) (by rw [six6_size]; exact Nat.lt_of_lt_of_le hk2 HS9.out)).trans ((six6_block _ _ _ _ _ _ _ _ _ (by omega)).trans (HK9.out k hk1 hk2)))
      clear hes
      go_wp2_with fail
      refine bodyPost_ret (v := .tuple #[opV ((a, b), t, P, c, []) (.slice none 0 0), .bool true]) ?_ rfl ⟨_, by rw [HE.out]; rfl, by rw [HE.out]; exact fun W hW => ⟨_, rfl, HV9.out _ _ _ _ _ _ W hW⟩, ?_⟩
      · simp [results, Tryz.results63, opV, go_sem, asAddr, Result.andThen, r0, r1, r2, r3, r4, r5]
      · exact six6_below KB9.out (Nat.le_refl _) _ _ _ _ _ _
    · have HE : Hid (decB s.toList = none) := by
        unfold Hid decB
        split
        · rfl
        · rw [HX.out, if_neg (fun e => hes (HT8.out.trans e.2))]
      have hesb : (T8.toList == s.toList) = false := by simpa using hes
      clear hes
      go_wp2_with fail
      refine bodyPost_ret (v := .tuple #[opV oz (.slice none 0 0), .bool false]) ?_ rfl ⟨_, by rw [HE.out]; rfl, by rw [HE.out]; exact fun W _ => ⟨_, rfl, DtsAt.nil _⟩, ?_⟩
      · simp [results, Tryz.results63, opV, oz, go_sem, asAddr, Result.andThen, r0, r1, r2, r3, r4, r5]
        rfl
      · exact six6_below KB9.out (Nat.le_refl _) _ _ _ _ _ _
  have t1b : (t == 1) = false := by simpa using t1
  by_cases t4 : t = 4
  case neg =>
    have t4b : (t == 4) = false := by simpa using t4
    have HX : Hid (readB s.toList = ((a, b), t, P, 0, [])) := by
      unfold Hid; rw [HRD]; unfold letterIn seenIn
      rw [if_neg t1, if_neg t4]
    clear HRD hR0 t1 t4
    go_enter Tryz.func63, Tryz.ntmps63
    go_wp2_with fail
    refine (CN _).mono ?_
    rintro e w5 ⟨rfl, hb5⟩
    obtain ⟨hr5, ho5, hbb5, hsz5⟩ := two_boxes hb5
    have KR5 : Hid (w5.heap[w.heap.size]? = some (.cells Z6 30 (0, 0))) := hr5
    have O : Hid (w5.heap[w.heap.size + 1]? = some (.cells #[.int .i64 a, .int .i64 0, .int .i64 t, .string ⟨#[]⟩, .int .i64 0, .slice none 0 0] 30 (0, 0))) := ho5
    have K5 : Hid (Below w.heap.size w w5) := hbb5
    have HZ5 : Hid (w.heap.size + 2 ≤ w5.heap.size) := hsz5
    clear hb5 hr5 ho5 hbb5 hsz5 CN
    have o0 : w5.cell? ⟨w.heap.size + 1, 0, none⟩ = some (.int .i64 a) := cell_of O.out rfl
    have o1 : w5.cell? ⟨w.heap.size + 1, 1, none⟩ = some (.int .i64 0) := cell_of O.out rfl
    have o2 : w5.cell? ⟨w.heap.size + 1, 2, none⟩ = some (.int .i64 t) := cell_of O.out rfl
    have o3 : w5.cell? ⟨w.heap.size + 1, 3, none⟩ = some (.string ⟨#[]⟩) := cell_of O.out rfl
    have o4 : w5.cell? ⟨w.heap.size + 1, 4, none⟩ = some (.int .i64 0) := cell_of O.out rfl
    have o5 : w5.cell? ⟨w.heap.size + 1, 5, none⟩ = some (.slice none 0 0) := cell_of O.out rfl
    have fo0 : w5.frozen? ⟨w.heap.size + 1, 0, none⟩ = false := free_of O.out
    have fo1 : w5.frozen? ⟨w.heap.size + 1, 1, none⟩ = false := free_of O.out
    have fo2 : w5.frozen? ⟨w.heap.size + 1, 2, none⟩ = false := free_of O.out
    have fo3 : w5.frozen? ⟨w.heap.size + 1, 3, none⟩ = false := free_of O.out
    have fo4 : w5.frozen? ⟨w.heap.size + 1, 4, none⟩ = false := free_of O.out
    have fo5 : w5.frozen? ⟨w.heap.size + 1, 5, none⟩ = false := free_of O.out
    go_wp2_with fail
    have KO5 : Hid ((((w5.setCell ⟨w.heap.size + 1, 1, none⟩ (.int .i64 b)).setCell ⟨w.heap.size + 1, 3, none⟩ (.string P))).heap[w.heap.size + 1]? = some (.cells #[.int .i64 a, .int .i64 b, .int .i64 t, .string P, .int .i64 0, .slice none 0 0] 30 (0, 0))) := setCell_heap (setCell_heap O.out)
    have KR7 : Hid ((((w5.setCell ⟨w.heap.size + 1, 1, none⟩ (.int .i64 b)).setCell ⟨w.heap.size + 1, 3, none⟩ (.string P))).heap[w.heap.size]? = some (.cells Z6 30 (0, 0))) := by unfold Hid; rw [set_block _ _ _ _ (by simp), set_block _ _ _ _ (by simp)]; exact KR5.out
    have K75 : Hid (Below w.heap.size w (((w5.setCell ⟨w.heap.size + 1, 1, none⟩ (.int .i64 b)).setCell ⟨w.heap.size + 1, 3, none⟩ (.string P)))) := (K5.out.setCell (p := ⟨w.heap.size + 1, 1, none⟩) (by simp) _).setCell (p := ⟨w.heap.size + 1, 3, none⟩) (by simp) _
    obtain ⟨w7, hw7⟩ : ∃ w7, w7 = ((w5.setCell ⟨w.heap.size + 1, 1, none⟩ (.int .i64 b)).setCell ⟨w.heap.size + 1, 3, none⟩ (.string P)) := ⟨_, rfl⟩
    rw [← hw7] at KO5 KR7 K75
    rw [← hw7]
    have KO := KO5
    have KR := KR7
    have K7 := K75
    have HV : Hid (∀ W, (∀ k, w.heap.size + 2 ≤ k → k < w7.heap.size → W.heap[k]? = w7.heap[k]?) → DtsAt W (.slice none 0 0) []) := fun W _ => DtsAt.nil W
    clear KO5 KR7 K75 KR5 K5 O o0 o1 o2 o3 o4 o5 fo0 fo1 fo2 fo3 fo4 fo5 hw7
    have CO := op_ref a b t P (0) (.slice none 0 0) ([]) w7 hPm (HV.out w7 (fun _ _ _ => rfl))
    by_cases hop : opE ((a, b), t, P, 0, []) = 0
    case neg =>
      have HE : Hid (decB s.toList = none) := by
        unfold Hid decB
        split
        · rfl
        · rw [HX.out, if_neg (fun e => hop e.1)]
      obtain ⟨q, hq⟩ : ∃ q, q = opE ((a, b), t, P, 0, []) := ⟨_, rfl⟩
      have hqn : (q != 0) = true := by rw [hq]; simpa using hop
      rw [← hq] at CO
      clear hq hop
      refine CO.mono ?_
      rintro e w8 ⟨rfl, hb8⟩
      have KB8 : Hid (Below w.heap.size w w8) := bel K7.out hb8
      have R : Hid (w8.heap[w.heap.size]? = some (.cells Z6 30 (0, 0))) := keep_heap hb8 KR.out
      have r0 : w8.cell? ⟨w.heap.size, 0, none⟩ = some (.int .i64 0) := cell_of R.out rfl
      have r1 : w8.cell? ⟨w.heap.size, 1, none⟩ = some (.int .i64 0) := cell_of R.out rfl
      have r2 : w8.cell? ⟨w.heap.size, 2, none⟩ = some (.int .i64 0) := cell_of R.out rfl
      have r3 : w8.cell? ⟨w.heap.size, 3, none⟩ = some (.string ⟨#[]⟩) := cell_of R.out rfl
      have r4 : w8.cell? ⟨w.heap.size, 4, none⟩ = some (.int .i64 0) := cell_of R.out rfl
      have r5 : w8.cell? ⟨w.heap.size, 5, none⟩ = some (.slice none 0 0) := cell_of R.out rfl
      have fr0 : w8.frozen? ⟨w.heap.size, 0, none⟩ = false := free_of R.out
      have fr1 : w8.frozen? ⟨w.heap.size, 1, none⟩ = false := free_of R.out
      have fr2 : w8.frozen? ⟨w.heap.size, 2, none⟩ = false := free_of R.out
      have fr3 : w8.frozen? ⟨w.heap.size, 3, none⟩ = false := free_of R.out
      have fr4 : w8.frozen? ⟨w.heap.size, 4, none⟩ = false := free_of R.out
      have fr5 : w8.frozen? ⟨w.heap.size, 5, none⟩ = false := free_of R.out
      clear hb8 CO
      go_wp2_with fail
      refine bodyPost_ret (v := .tuple #[opV oz (.slice none 0 0), .bool false]) ?_ rfl ⟨_, by rw [HE.out]; rfl, by rw [HE.out]; exact fun W _ => ⟨_, rfl, DtsAt.nil _⟩, ?_⟩
      · simp [results, Tryz.results63, opV, oz, go_sem, asAddr, Result.andThen, r0, r1, r2, r3, r4, r5]
        rfl
      · exact six6_below KB8.out (Nat.le_refl _) _ _ _ _ _ _
    rw [hop] at CO
    refine CO.mono ?_
    rintro e w8 ⟨rfl, hb8⟩
    have KB8 : Hid (Below w.heap.size w w8) := bel K7.out hb8
    have KR8 : Hid (w8.heap[w.heap.size]? = some (.cells Z6 30 (0, 0))) := keep_heap hb8 KR.out
    have O : Hid (w8.heap[w.heap.size + 1]? = some (.cells #[.int .i64 a, .int .i64 b, .int .i64 t, .string P, .int .i64 (0), .slice none 0 0] 30 (0, 0))) := keep_heap hb8 KO.out
    have HS8 : Hid (w7.heap.size ≤ w8.heap.size) := hb8.size
    have HK8 : Hid (∀ k, k < w7.heap.size → w8.heap[k]? = w7.heap[k]?) := hb8.block
    have o0 : w8.cell? ⟨w.heap.size + 1, 0, none⟩ = some (.int .i64 a) := cell_of O.out rfl
    have o1 : w8.cell? ⟨w.heap.size + 1, 1, none⟩ = some (.int .i64 b) := cell_of O.out rfl
    have o2 : w8.cell? ⟨w.heap.size + 1, 2, none⟩ = some (.int .i64 t) := cell_of O.out rfl
    have o3 : w8.cell? ⟨w.heap.size + 1, 3, none⟩ = some (.string P) := cell_of O.out rfl
    have o4 : w8.cell? ⟨w.heap.size + 1, 4, none⟩ = some (.int .i64 (0)) := cell_of O.out rfl
    have o5 : w8.cell? ⟨w.heap.size + 1, 5, none⟩ = some (.slice none 0 0) := cell_of O.out rfl
    have CB := bytes_ref a b t P (0) (.slice none 0 0) ([]) w8 (HV.out w8 (fun k _ hk => HK8.out k hk)) hop
    obtain ⟨T8, hT8⟩ : ∃ T8, T8 = bytesS ((a, b), t, P, 0, []) := ⟨_, rfl⟩
    rw [← hT8] at CB
    have HT8 : Hid (T8.toList = bytesB ((a, b), t, P, 0, [])) := by unfold Hid; rw [hT8, bytesS_list]
    have HOP : Hid (opE ((a, b), t, P, 0, []) = 0) := hop
    clear hb8 CO hT8 hop
    go_wp2_with fail
    refine CB.mono ?_
    rintro e w9 ⟨rfl, hb9⟩
    have KB9 : Hid (Below w.heap.size w w9) := bel KB8.out hb9
    have R : Hid (w9.heap[w.heap.size]? = some (.cells Z6 30 (0, 0))) := keep_heap hb9 KR8.out
    have r0 : w9.cell? ⟨w.heap.size, 0, none⟩ = some (.int .i64 0) := cell_of R.out rfl
    have r1 : w9.cell? ⟨w.heap.size, 1, none⟩ = some (.int .i64 0) := cell_of R.out rfl
    have r2 : w9.cell? ⟨w.heap.size, 2, none⟩ = some (.int .i64 0) := cell_of R.out rfl
    have r3 : w9.cell? ⟨w.heap.size, 3, none⟩ = some (.string ⟨#[]⟩) := cell_of R.out rfl
    have r4 : w9.cell? ⟨w.heap.size, 4, none⟩ = some (.int .i64 0) := cell_of R.out rfl
    have r5 : w9.cell? ⟨w.heap.size, 5, none⟩ = some (.slice none 0 0) := cell_of R.out rfl
    have fr0 : w9.frozen? ⟨w.heap.size, 0, none⟩ = false := free_of R.out
    have fr1 : w9.frozen? ⟨w.heap.size, 1, none⟩ = false := free_of R.out
    have fr2 : w9.frozen? ⟨w.heap.size, 2, none⟩ = false := free_of R.out
    have fr3 : w9.frozen? ⟨w.heap.size, 3, none⟩ = false := free_of R.out
    have fr4 : w9.frozen? ⟨w.heap.size, 4, none⟩ = false := free_of R.out
    have fr5 : w9.frozen? ⟨w.heap.size, 5, none⟩ = false := free_of R.out
    have KO9 : Hid (w9.heap[w.heap.size + 1]? = some (.cells #[.int .i64 a, .int .i64 b, .int .i64 t, .string P, .int .i64 (0), .slice none 0 0] 30 (0, 0))) := keep_heap hb9 O.out
    have HK9 : Hid (∀ k, w.heap.size + 2 ≤ k → k < w7.heap.size → w9.heap[k]? = w7.heap[k]?) := fun k _ hk => (hb9.block k (Nat.lt_of_lt_of_le hk HS8.out)).trans (HK8.out k hk)
    have HS9 : Hid (w7.heap.size ≤ w9.heap.size) := Nat.le_trans HS8.out hb9.size
    clear o0 o1 o2 o3 o4 o5
    have x0 : w9.cell? ⟨w.heap.size + 1, 0, none⟩ = some (.int .i64 a) := cell_of KO9.out rfl
    have x1 : w9.cell? ⟨w.heap.size + 1, 1, none⟩ = some (.int .i64 b) := cell_of KO9.out rfl
    have x2 : w9.cell? ⟨w.heap.size + 1, 2, none⟩ = some (.int .i64 t) := cell_of KO9.out rfl
    have x3 : w9.cell? ⟨w.heap.size + 1, 3, none⟩ = some (.string P) := cell_of KO9.out rfl
    have x4 : w9.cell? ⟨w.heap.size + 1, 4, none⟩ = some (.int .i64 (0)) := cell_of KO9.out rfl
    have x5 : w9.cell? ⟨w.heap.size + 1, 5, none⟩ = some (.slice none 0 0) := cell_of KO9.out rfl
    clear CB hb9
    by_cases hes : T8.toList = s.toList
    · have HE : Hid (decB s.toList = some ((a, b), t, P, 0, [])) := decB_iff.2 ⟨HOP.out, by rw [← HT8.out]; exact hes⟩
      have hesb : (T8.toList == s.toList) = true := by simpa using hes
      have HV9 : Hid (∀ x0 x1 x2 x3 x4 x5 W, (∀ k, w.heap.size ≤ k → k < (six6 w9 w.heap.size x0 x1 x2 x3 x4 x5).heap.size → W.heap[k]? = (six6 w9 w.heap.size x0 x1 x2 x3 x4 x5).heap[k]?) → DtsAt W (.slice none 0 0) ([])) := fun x0 x1 x2 x3 x4 x5 W hW => HV.out _ (fun k hk1 hk2 => (hW k (by omega) (by rw [six6_size]; exact Nat.lt_of_lt_of_le hk2 HS9.out)).trans ((six6_block _ _ _ _ _ _ _ _ _ (by omega)).trans (HK9.out k hk1 hk2)))
      clear hes
      go_wp2_with fail
      refine bodyPost_ret (v := .tuple #[opV ((a, b), t, P, 0, []) (.slice none 0 0), .bool true]) ?_ rfl ⟨_, by rw [HE.out]; rfl, by rw [HE.out]; exact fun W hW => ⟨_, rfl, HV9.out _ _ _ _ _ _ W hW⟩, ?_⟩
      · simp [results, Tryz.results63, opV, go_sem, asAddr, Result.andThen, r0, r1, r2, r3, r4, r5]
      · exact six6_below KB9.out (Nat.le_refl _) _ _ _ _ _ _
    · have HE : Hid (decB s.toList = none) := by
        unfold Hid decB
        split
        · rfl
        · rw [HX.out, if_neg (fun e => hes (HT8.out.trans e.2))]
      have hesb : (T8.toList == s.toList) = false := by simpa using hes
      clear hes
      go_wp2_with fail
      refine bodyPost_ret (v := .tuple #[opV oz (.slice none 0 0), .bool false]) ?_ rfl ⟨_, by rw [HE.out]; rfl, by rw [HE.out]; exact fun W _ => ⟨_, rfl, DtsAt.nil _⟩, ?_⟩
      · simp [results, Tryz.results63, opV, oz, go_sem, asAddr, Result.andThen, r0, r1, r2, r3, r4, r5]
        rfl
      · exact six6_below KB9.out (Nat.le_refl _) _ _ _ _ _ _
  have t4b : (t == 4) = true := by simpa using t4
  obtain ⟨m, hm0⟩ : ∃ m : Nat, (R0[0].toNat : Int) = (m : Int) := ⟨_, rfl⟩
  obtain ⟨TT, hTT⟩ : ∃ TT, TT = threes m R0.toList.tail := ⟨_, rfl⟩
  have HX : Hid (readB s.toList = ((a, b), t, P, 0, TT)) := by
    unfold Hid; rw [HRD]; unfold letterIn seenIn
    rw [if_neg t1, if_pos t4, ← head_at, hR0, show R0[0].toNat = m by omega, ← hTT]
  have HTL : Hid (TT.length = min m ((R0.size - 1) / 3)) := by
    unfold Hid; rw [hTT, threes_len, List.length_tail, Om.len_eq]
  have HTA : Hid (∀ k, k < TT.length → TT.getD k noneD = (((R0.toList.getD (1 + 3 * k) 0).toNat : Int), ((numAt R0.toList (2 + 3 * k) : Nat) : Int))) := by
    intro k hk
    rw [hTT] at hk ⊢
    rw [threes_at m _ k hk]
    unfold numAt
    rw [tail_at, tail_at, tail_at, show 3 * k + 1 = 1 + 3 * k by omega, show 1 + 3 * k + 1 = 2 + 3 * k by omega]
  obtain ⟨n, hn⟩ : ∃ n, n = TT.length := ⟨_, rfl⟩
  have HN : Hid (n = TT.length) := hn
  have hnm : n ≤ m := by rw [hn, HTL.out]; omega
  have hn255 : n ≤ 255 := by omega
  have HNE : Hid (∀ k, k < n ↔ k < m ∧ 4 + 3 * k ≤ R0.size) := by intro k; rw [hn, HTL.out]; omega
  clear HRD hR0 t1 t4 hTT hn hnm
  go_enter Tryz.func63, Tryz.ntmps63
  go_wp2_with fail
  refine (CN _).mono ?_
  rintro e w5 ⟨rfl, hb5⟩
  obtain ⟨hr5, ho5, hbb5, hsz5⟩ := two_boxes hb5
  have KR5 : Hid (w5.heap[w.heap.size]? = some (.cells Z6 30 (0, 0))) := hr5
  have O : Hid (w5.heap[w.heap.size + 1]? = some (.cells #[.int .i64 a, .int .i64 0, .int .i64 t, .string ⟨#[]⟩, .int .i64 0, .slice none 0 0] 30 (0, 0))) := ho5
  have K5 : Hid (Below w.heap.size w w5) := hbb5
  have HZ5 : Hid (w.heap.size + 2 ≤ w5.heap.size) := hsz5
  clear hb5 hr5 ho5 hbb5 hsz5 CN
  have o0 : w5.cell? ⟨w.heap.size + 1, 0, none⟩ = some (.int .i64 a) := cell_of O.out rfl
  have o1 : w5.cell? ⟨w.heap.size + 1, 1, none⟩ = some (.int .i64 0) := cell_of O.out rfl
  have o2 : w5.cell? ⟨w.heap.size + 1, 2, none⟩ = some (.int .i64 t) := cell_of O.out rfl
  have o3 : w5.cell? ⟨w.heap.size + 1, 3, none⟩ = some (.string ⟨#[]⟩) := cell_of O.out rfl
  have o4 : w5.cell? ⟨w.heap.size + 1, 4, none⟩ = some (.int .i64 0) := cell_of O.out rfl
  have o5 : w5.cell? ⟨w.heap.size + 1, 5, none⟩ = some (.slice none 0 0) := cell_of O.out rfl
  have fo0 : w5.frozen? ⟨w.heap.size + 1, 0, none⟩ = false := free_of O.out
  have fo1 : w5.frozen? ⟨w.heap.size + 1, 1, none⟩ = false := free_of O.out
  have fo2 : w5.frozen? ⟨w.heap.size + 1, 2, none⟩ = false := free_of O.out
  have fo3 : w5.frozen? ⟨w.heap.size + 1, 3, none⟩ = false := free_of O.out
  have fo4 : w5.frozen? ⟨w.heap.size + 1, 4, none⟩ = false := free_of O.out
  have fo5 : w5.frozen? ⟨w.heap.size + 1, 5, none⟩ = false := free_of O.out
  go_wp2_with fail
  have KO5 : Hid (((w5.setCell ⟨w.heap.size + 1, 1, none⟩ (.int .i64 b)).setCell ⟨w.heap.size + 1, 3, none⟩ (.string P)).heap[w.heap.size + 1]? = some (.cells #[.int .i64 a, .int .i64 b, .int .i64 t, .string P, .int .i64 0, .slice none 0 0] 30 (0, 0))) := setCell_heap (setCell_heap O.out)
  have KR7 : Hid (((w5.setCell ⟨w.heap.size + 1, 1, none⟩ (.int .i64 b)).setCell ⟨w.heap.size + 1, 3, none⟩ (.string P)).heap[w.heap.size]? = some (.cells Z6 30 (0, 0))) := by unfold Hid; rw [set_block _ _ _ _ (by simp), set_block _ _ _ _ (by simp)]; exact KR5.out
  have K75 : Hid (Below w.heap.size w ((w5.setCell ⟨w.heap.size + 1, 1, none⟩ (.int .i64 b)).setCell ⟨w.heap.size + 1, 3, none⟩ (.string P))) := (K5.out.setCell (p := ⟨w.heap.size + 1, 1, none⟩) (by simp) _).setCell (p := ⟨w.heap.size + 1, 3, none⟩) (by simp) _
  have HZ7 : Hid (w.heap.size + 2 ≤ ((w5.setCell ⟨w.heap.size + 1, 1, none⟩ (.int .i64 b)).setCell ⟨w.heap.size + 1, 3, none⟩ (.string P)).heap.size) := by have := HZ5.out; unfold Hid; simpa [World.setCell] using this
  obtain ⟨w7, hw7⟩ : ∃ w7, w7 = ((w5.setCell ⟨w.heap.size + 1, 1, none⟩ (.int .i64 b)).setCell ⟨w.heap.size + 1, 3, none⟩ (.string P)) := ⟨_, rfl⟩
  rw [← hw7] at KO5 KR7 K75 HZ7
  rw [← hw7]
  clear KR5 K5 O o0 o1 o2 o3 o4 o5 fo0 fo1 fo2 fo3 fo4 fo5 hw7 HZ5
  obtain ⟨i0, hi, hz0, hz1, hzz2⟩ := info_parts infoD
  go_loopw [7] (fun i wr => ∃ (k : Nat) (v : Value), k ≤ n ∧ i = .int .i64 k ∧ (∃ p0 n0 c0, v = .slice p0 n0 c0) ∧ Hid (wr.heap[w.heap.size]? = some (.cells Z6 30 (0, 0))) ∧ Hid (wr.heap[w.heap.size + 1]? = some (.cells #[.int .i64 a, .int .i64 b, .int .i64 t, .string P, .int .i64 0, v] 30 (0, 0))) ∧ Hid (wr.ownsRow (w.heap.size + 2) 27 2 v (TT.take k).length (flatD (TT.take k))) ∧ Hid (Below w.heap.size w wr) ∧ Hid (w.heap.size + 2 ≤ wr.heap.size)) (fun i _ => n - (intOf i).toNat)
  case atStart => exact ⟨0, .slice none 0 0, by omega, rfl, ⟨_, _, _, rfl⟩, KR7, KO5, World.ownsRow_nil _ _ _ _, K75, HZ7⟩
  case round =>
    clear KR7 KO5 K75 HZ7
    obtain ⟨k, v, hk, rfl, ⟨p0, n0, c0, rfl⟩, KR, KO, KW, K7, KZ⟩ := hrel
    by_cases hlt : k < n
    · obtain ⟨hkm, hkr⟩ := (HNE.out k).1 hlt
      have hkmz : (k : Int) < m := by omega
      have hkrz : (4 : Int) + 3 * (k : Int) ≤ R0.size := by omega
      obtain ⟨q1, hq1⟩ : ∃ q1 : Nat, (1 : Int) + 3 * (k : Int) = (q1 : Int) := ⟨1 + 3 * k, by omega⟩
      obtain ⟨q2, hq2⟩ : ∃ q2 : Nat, (2 : Int) + 3 * (k : Int) = (q2 : Int) := ⟨2 + 3 * k, by omega⟩
      have hq1s : q1 < R0.size := by omega
      have hq2s : q2 + 1 < R0.size := by omega
      have hqb : R0[q1].toNat < 256 := UInt8.toNat_lt _
      obtain ⟨x1, hx1⟩ : ∃ x1 : Int, (R0[q1].toNat : Int) = x1 := ⟨_, rfl⟩
      obtain ⟨x2, hx2⟩ : ∃ x2 : Int, ((numAt R0.toList q2 : Nat) : Int) = x2 := ⟨_, rfl⟩
      have HTK : Hid (TT.take (k + 1) = TT.take k ++ [(x1, x2)]) := by
        have hk2 : k < TT.length := by rw [← HN.out]; exact hlt
        have h9 := HTA.out k hk2
        rw [show 1 + 3 * k = q1 by omega, show 2 + 3 * k = q2 by omega, at_list R0 q1 hq1s, hx1, hx2, List.getD_eq_getElem?_getD, List.getElem?_eq_getElem hk2] at h9
        unfold Hid
        rw [List.take_add_one, List.getElem?_eq_getElem hk2]
        simp only [Option.getD_some] at h9
        rw [h9]; rfl
      have CN2 := fun W => number_ref R0 q2 W hq2s hRm
      rw [hx2] at CN2
      clear hx2
      go_wp2_with fail
      refine (CN2 _).mono ?_
      rintro e w8 ⟨rfl, hb8⟩
      have hb89 : Below wr.heap.size wr w8 := bel_new (Below.refl _ wr) hb8
      have KR8 : Hid (w8.heap[w.heap.size]? = some (.cells Z6 30 (0, 0))) := keep_heap hb89 KR.out
      have O : Hid (w8.heap[w.heap.size + 1]? = some (.cells #[.int .i64 a, .int .i64 b, .int .i64 t, .string P, .int .i64 0, .slice p0 n0 c0] 30 (0, 0))) := keep_heap hb89 KO.out
      have KW8 : Hid (w8.ownsRow (w.heap.size + 2) 27 2 (.slice p0 n0 c0) (TT.take k).length (flatD (TT.take k))) := own_below KW.out hb89
      have K8 : Hid (Below w.heap.size w w8) := bel K7.out hb89
      have hsz8 : wr.heap.size + 1 ≤ w8.heap.size := by have := hb8.size; simpa using this
      have E2 : Hid (w8.heap[wr.heap.size]? = some (.cells #[.int .i64 x1, .int .i64 0] 27 (0, 0))) := keep_heap hb8 (heap_alloc_new wr _)
      have HLT : Hid (wr.heap.size < w8.heap.size ∧ w.heap.size + 2 ≤ wr.heap.size) := ⟨by omega, KZ.out⟩
      have g0 : w8.cell? ⟨wr.heap.size, 0, none⟩ = some (.int .i64 x1) := cell_of E2.out rfl
      have g1 : w8.cell? ⟨wr.heap.size, 1, none⟩ = some (.int .i64 0) := cell_of E2.out rfl
      have fg1 : w8.frozen? ⟨wr.heap.size, 1, none⟩ = false := free_of E2.out
      have hne : ¬ w.heap.size + 1 = wr.heap.size := by have := KZ.out; omega
      have o5 : (w8.setCell ⟨wr.heap.size, 1, none⟩ (.int .i64 x2)).cell? ⟨w.heap.size + 1, 5, none⟩ = some (.slice p0 n0 c0) := by
        rw [World.cell?_setCell_other _ _ _ _ (by intro e; injection e; omega)]; exact cell_of O.out rfl
      have HOW : Hid ((w8.setCell ⟨wr.heap.size, 1, none⟩ (.int .i64 x2)).ownsRow (w.heap.size + 2) 27 2 (.slice p0 n0 c0) (TT.take k).length (flatD (TT.take k))) := by
        refine own_at KW.out ?_
        intro j hj1 hj2
        rw [set_block _ _ _ _ (by show j ≠ wr.heap.size; omega)]
        exact hb89.block j hj2
      have hcap1 : (TT.take k).length + 1 ≤ maxLen := by rw [List.length_take]; unfold maxLen; omega
      have hcap2 : ((TT.take k).length + 1) * 16 ≤ 140737488355328 := by rw [List.length_take]; omega
      have HNW : Hid (∀ j u, (flatD [(x1, x2)])[j]? = some u → ((w8.setCell ⟨wr.heap.size, 1, none⟩ (.int .i64 x2)).alloc (.cells #[.int .i64 x1, .int .i64 x2] 27)).cell? ((⟨w8.heap.size, 0, none⟩ : Addr).add j) = some u) := by
        have := dot_new (w8.setCell ⟨wr.heap.size, 1, none⟩ (.int .i64 x2)) x1 x2 27
        rwa [show (w8.setCell ⟨wr.heap.size, 1, none⟩ (.int .i64 x2)).heap.size = w8.heap.size by simp [World.setCell]] at this
      have HSB : Hid (w.heap.size + 2 ≤ ((w8.setCell ⟨wr.heap.size, 1, none⟩ (.int .i64 x2)).alloc (.cells #[.int .i64 x1, .int .i64 x2] 27)).heap.size) := by
        have := KZ.out; unfold Hid; simp [World.setCell]; omega
      have HBL : Hid (Below w.heap.size w ((w8.setCell ⟨wr.heap.size, 1, none⟩ (.int .i64 x2)).alloc (.cells #[.int .i64 x1, .int .i64 x2] 27))) := (K8.out.setCell (p := ⟨wr.heap.size, 1, none⟩) K7.out.size _).alloc (by have := K8.out.size; simpa [World.setCell] using this) _
      have HBX : Hid (∀ j, j < w.heap.size + 2 → ((w8.setCell ⟨wr.heap.size, 1, none⟩ (.int .i64 x2)).alloc (.cells #[.int .i64 x1, .int .i64 x2] 27)).heap[j]? = w8.heap[j]?) := by
        intro j hj
        have h9 := HLT.out
        rw [heap_alloc_old _ _ (by simp [World.setCell]; omega), set_block _ _ _ _ (by show j ≠ wr.heap.size; omega)]
      clear hb8 hb89 CN2
      go_wp2_with (at_builtin; refine wpList_append_own_at _ rfl (.tmp 96) (.tmp 98) 28 rfl (w.heap.size + 2) 27 i0 (.agg #[.int .i64 0, .int .i64 0]) 2 16 Tryz.underlying28 hi hz0 hz1 hzz2 rfl (by decide) (.slice p0 n0 c0) (TT.take k).length (flatD (TT.take k)) rfl (HOW.out.alloc _) ⟨w8.heap.size, 0, none⟩ 1 1 (flatD [(x1, x2)]) rfl rfl HNW.out (flatD_one _) hcap1 hcap2 HSB.out ?_; intro v9 w9 hown9 hgrow9 _ hat9; have KW9 : Hid (w9.ownsRow (w.heap.size + 2) 27 2 v9 (TT.take k ++ [(x1, x2)]).length (flatD (TT.take k ++ [(x1, x2)]))) := own_appD rfl rfl hown9; have K9 : Hid (Below w.heap.size w w9) := HBL.out.grown hgrow9 (by have := HSB.out; omega) (fun j hj => by have := own_ge HOW.out j hj; omega); have KX9 : Hid (∀ j, j < w.heap.size + 2 → w9.heap[j]? = w8.heap[j]?) := fun j hj => (hgrow9.block j (by have := HSB.out; omega) (fun e => by have := own_ge HOW.out j e.symm; omega)).trans (HBX.out j hj); have KZ9 : Hid (w.heap.size + 2 ≤ w9.heap.size) := Nat.le_trans HSB.out hgrow9.size; have O9 : Hid (w9.heap[w.heap.size + 1]? = some (.cells #[.int .i64 a, .int .i64 b, .int .i64 t, .string P, .int .i64 0, .slice p0 n0 c0] 30 (0, 0))) := (KX9.out _ (by omega)).trans O.out; have y5 : w9.cell? ⟨w.heap.size + 1, 5, none⟩ = some (.slice p0 n0 c0) := cell_of O9.out rfl; have fy5 : w9.frozen? ⟨w.heap.size + 1, 5, none⟩ = false := free_of O9.out; obtain ⟨p9, N9, c9, hv9, _⟩ := own_shape KW9.out; subst hv9; clear hown9 hgrow9 hat9 o5)
      rw [← HTK.out] at KW9
      go_roundw
      case rel => exact ⟨k + 1, _, by omega, by go_num, ⟨_, _, _, rfl⟩, by unfold Hid; rw [set_block _ _ _ _ (by simp)]; exact (KX9.out _ (by omega)).trans KR8.out, setCell_heap O9.out, own_at KW9.out (fun j hj _ => set_block _ _ _ _ (by show j ≠ w.heap.size + 1; omega)), K9.out.setCell (p := ⟨w.heap.size + 1, 5, none⟩) (by simp) _, by have := KZ9.out; unfold Hid; simpa [World.setCell] using this⟩
      case measure => simp [intOf]; omega
    · obtain rfl : n = k := by omega
      have hnn := HNE.out n
      have HV : Hid (∀ W, (∀ k, w.heap.size + 2 ≤ k → k < wr.heap.size → W.heap[k]? = wr.heap[k]?) → DtsAt W (.slice p0 n0 c0) TT) := by
        intro W hW
        have h9 := own_dts (own_at KW.out hW)
        rwa [List.take_of_length_le (by rw [← HN.out]; exact Nat.le_refl _)] at h9
      by_cases hkm : (n : Int) < m
      · have hkr : ¬ (4 : Int) + 3 * (n : Int) ≤ R0.size := by omega
        clear hnn
        have o0 : wr.cell? ⟨w.heap.size + 1, 0, none⟩ = some (.int .i64 a) := cell_of KO.out rfl
        have o1 : wr.cell? ⟨w.heap.size + 1, 1, none⟩ = some (.int .i64 b) := cell_of KO.out rfl
        have o2 : wr.cell? ⟨w.heap.size + 1, 2, none⟩ = some (.int .i64 t) := cell_of KO.out rfl
        have o3 : wr.cell? ⟨w.heap.size + 1, 3, none⟩ = some (.string P) := cell_of KO.out rfl
        have o4 : wr.cell? ⟨w.heap.size + 1, 4, none⟩ = some (.int .i64 0) := cell_of KO.out rfl
        have o5 : wr.cell? ⟨w.heap.size + 1, 5, none⟩ = some (.slice p0 n0 c0) := cell_of KO.out rfl
        go_wp2_with fail
        clear o0 o1 o2 o3 o4 o5
        have CO := op_ref a b t P (0) (.slice p0 n0 c0) (TT) wr hPm (HV.out wr (fun _ _ _ => rfl))
        by_cases hop : opE ((a, b), t, P, 0, TT) = 0
        case neg =>
          have HE : Hid (decB s.toList = none) := by
            unfold Hid decB
            split
            · rfl
            · rw [HX.out, if_neg (fun e => hop e.1)]
          obtain ⟨q, hq⟩ : ∃ q, q = opE ((a, b), t, P, 0, TT) := ⟨_, rfl⟩
          have hqn : (q != 0) = true := by rw [hq]; simpa using hop
          rw [← hq] at CO
          clear hq hop
          refine CO.mono ?_
          rintro e w8 ⟨rfl, hb8⟩
          have KB8 : Hid (Below w.heap.size w w8) := bel K7.out hb8
          have R : Hid (w8.heap[w.heap.size]? = some (.cells Z6 30 (0, 0))) := keep_heap hb8 KR.out
          have r0 : w8.cell? ⟨w.heap.size, 0, none⟩ = some (.int .i64 0) := cell_of R.out rfl
          have r1 : w8.cell? ⟨w.heap.size, 1, none⟩ = some (.int .i64 0) := cell_of R.out rfl
          have r2 : w8.cell? ⟨w.heap.size, 2, none⟩ = some (.int .i64 0) := cell_of R.out rfl
          have r3 : w8.cell? ⟨w.heap.size, 3, none⟩ = some (.string ⟨#[]⟩) := cell_of R.out rfl
          have r4 : w8.cell? ⟨w.heap.size, 4, none⟩ = some (.int .i64 0) := cell_of R.out rfl
          have r5 : w8.cell? ⟨w.heap.size, 5, none⟩ = some (.slice none 0 0) := cell_of R.out rfl
          have fr0 : w8.frozen? ⟨w.heap.size, 0, none⟩ = false := free_of R.out
          have fr1 : w8.frozen? ⟨w.heap.size, 1, none⟩ = false := free_of R.out
          have fr2 : w8.frozen? ⟨w.heap.size, 2, none⟩ = false := free_of R.out
          have fr3 : w8.frozen? ⟨w.heap.size, 3, none⟩ = false := free_of R.out
          have fr4 : w8.frozen? ⟨w.heap.size, 4, none⟩ = false := free_of R.out
          have fr5 : w8.frozen? ⟨w.heap.size, 5, none⟩ = false := free_of R.out
          clear hb8 CO
          go_wp2_with fail
          refine bodyPost_ret (v := .tuple #[opV oz (.slice none 0 0), .bool false]) ?_ rfl ⟨_, by rw [HE.out]; rfl, by rw [HE.out]; exact fun W _ => ⟨_, rfl, DtsAt.nil _⟩, ?_⟩
          · simp [results, Tryz.results63, opV, oz, go_sem, asAddr, Result.andThen, r0, r1, r2, r3, r4, r5]
            rfl
          · exact six6_below KB8.out (Nat.le_refl _) _ _ _ _ _ _
        rw [hop] at CO
        refine CO.mono ?_
        rintro e w8 ⟨rfl, hb8⟩
        have KB8 : Hid (Below w.heap.size w w8) := bel K7.out hb8
        have KR8 : Hid (w8.heap[w.heap.size]? = some (.cells Z6 30 (0, 0))) := keep_heap hb8 KR.out
        have O : Hid (w8.heap[w.heap.size + 1]? = some (.cells #[.int .i64 a, .int .i64 b, .int .i64 t, .string P, .int .i64 (0), .slice p0 n0 c0] 30 (0, 0))) := keep_heap hb8 KO.out
        have HS8 : Hid (wr.heap.size ≤ w8.heap.size) := hb8.size
        have HK8 : Hid (∀ k, k < wr.heap.size → w8.heap[k]? = wr.heap[k]?) := hb8.block
        have o0 : w8.cell? ⟨w.heap.size + 1, 0, none⟩ = some (.int .i64 a) := cell_of O.out rfl
        have o1 : w8.cell? ⟨w.heap.size + 1, 1, none⟩ = some (.int .i64 b) := cell_of O.out rfl
        have o2 : w8.cell? ⟨w.heap.size + 1, 2, none⟩ = some (.int .i64 t) := cell_of O.out rfl
        have o3 : w8.cell? ⟨w.heap.size + 1, 3, none⟩ = some (.string P) := cell_of O.out rfl
        have o4 : w8.cell? ⟨w.heap.size + 1, 4, none⟩ = some (.int .i64 (0)) := cell_of O.out rfl
        have o5 : w8.cell? ⟨w.heap.size + 1, 5, none⟩ = some (.slice p0 n0 c0) := cell_of O.out rfl
        have CB := bytes_ref a b t P (0) (.slice p0 n0 c0) (TT) w8 (HV.out w8 (fun k _ hk => HK8.out k hk)) hop
        obtain ⟨T8, hT8⟩ : ∃ T8, T8 = bytesS ((a, b), t, P, 0, TT) := ⟨_, rfl⟩
        rw [← hT8] at CB
        have HT8 : Hid (T8.toList = bytesB ((a, b), t, P, 0, TT)) := by unfold Hid; rw [hT8, bytesS_list]
        have HOP : Hid (opE ((a, b), t, P, 0, TT) = 0) := hop
        clear hb8 CO hT8 hop
        go_wp2_with fail
        refine CB.mono ?_
        rintro e w9 ⟨rfl, hb9⟩
        have KB9 : Hid (Below w.heap.size w w9) := bel KB8.out hb9
        have R : Hid (w9.heap[w.heap.size]? = some (.cells Z6 30 (0, 0))) := keep_heap hb9 KR8.out
        have r0 : w9.cell? ⟨w.heap.size, 0, none⟩ = some (.int .i64 0) := cell_of R.out rfl
        have r1 : w9.cell? ⟨w.heap.size, 1, none⟩ = some (.int .i64 0) := cell_of R.out rfl
        have r2 : w9.cell? ⟨w.heap.size, 2, none⟩ = some (.int .i64 0) := cell_of R.out rfl
        have r3 : w9.cell? ⟨w.heap.size, 3, none⟩ = some (.string ⟨#[]⟩) := cell_of R.out rfl
        have r4 : w9.cell? ⟨w.heap.size, 4, none⟩ = some (.int .i64 0) := cell_of R.out rfl
        have r5 : w9.cell? ⟨w.heap.size, 5, none⟩ = some (.slice none 0 0) := cell_of R.out rfl
        have fr0 : w9.frozen? ⟨w.heap.size, 0, none⟩ = false := free_of R.out
        have fr1 : w9.frozen? ⟨w.heap.size, 1, none⟩ = false := free_of R.out
        have fr2 : w9.frozen? ⟨w.heap.size, 2, none⟩ = false := free_of R.out
        have fr3 : w9.frozen? ⟨w.heap.size, 3, none⟩ = false := free_of R.out
        have fr4 : w9.frozen? ⟨w.heap.size, 4, none⟩ = false := free_of R.out
        have fr5 : w9.frozen? ⟨w.heap.size, 5, none⟩ = false := free_of R.out
        have KO9 : Hid (w9.heap[w.heap.size + 1]? = some (.cells #[.int .i64 a, .int .i64 b, .int .i64 t, .string P, .int .i64 (0), .slice p0 n0 c0] 30 (0, 0))) := keep_heap hb9 O.out
        have HK9 : Hid (∀ k, w.heap.size + 2 ≤ k → k < wr.heap.size → w9.heap[k]? = wr.heap[k]?) := fun k _ hk => (hb9.block k (Nat.lt_of_lt_of_le hk HS8.out)).trans (HK8.out k hk)
        have HS9 : Hid (wr.heap.size ≤ w9.heap.size) := Nat.le_trans HS8.out hb9.size
        clear o0 o1 o2 o3 o4 o5
        have x0 : w9.cell? ⟨w.heap.size + 1, 0, none⟩ = some (.int .i64 a) := cell_of KO9.out rfl
        have x1 : w9.cell? ⟨w.heap.size + 1, 1, none⟩ = some (.int .i64 b) := cell_of KO9.out rfl
        have x2 : w9.cell? ⟨w.heap.size + 1, 2, none⟩ = some (.int .i64 t) := cell_of KO9.out rfl
        have x3 : w9.cell? ⟨w.heap.size + 1, 3, none⟩ = some (.string P) := cell_of KO9.out rfl
        have x4 : w9.cell? ⟨w.heap.size + 1, 4, none⟩ = some (.int .i64 (0)) := cell_of KO9.out rfl
        have x5 : w9.cell? ⟨w.heap.size + 1, 5, none⟩ = some (.slice p0 n0 c0) := cell_of KO9.out rfl
        clear CB hb9
        by_cases hes : T8.toList = s.toList
        · have HE : Hid (decB s.toList = some ((a, b), t, P, 0, TT)) := decB_iff.2 ⟨HOP.out, by rw [← HT8.out]; exact hes⟩
          have hesb : (T8.toList == s.toList) = true := by simpa using hes
          have HV9 : Hid (∀ x0 x1 x2 x3 x4 x5 W, (∀ k, w.heap.size ≤ k → k < (six6 w9 w.heap.size x0 x1 x2 x3 x4 x5).heap.size → W.heap[k]? = (six6 w9 w.heap.size x0 x1 x2 x3 x4 x5).heap[k]?) → DtsAt W (.slice p0 n0 c0) (TT)) := fun x0 x1 x2 x3 x4 x5 W hW => HV.out _ (fun k hk1 hk2 => (hW k (by omega) (by rw [six6_size]; exact Nat.lt_of_lt_of_le hk2 HS9.out)).trans ((six6_block _ _ _ _ _ _ _ _ _ (by omega)).trans (HK9.out k hk1 hk2)))
          clear hes
          go_wp2_with fail
          refine bodyPost_ret (v := .tuple #[opV ((a, b), t, P, 0, TT) (.slice p0 n0 c0), .bool true]) ?_ rfl ⟨_, by rw [HE.out]; rfl, by rw [HE.out]; exact fun W hW => ⟨_, rfl, HV9.out _ _ _ _ _ _ W hW⟩, ?_⟩
          · simp [results, Tryz.results63, opV, go_sem, asAddr, Result.andThen, r0, r1, r2, r3, r4, r5]
          · exact six6_below KB9.out (Nat.le_refl _) _ _ _ _ _ _
        · have HE : Hid (decB s.toList = none) := by
            unfold Hid decB
            split
            · rfl
            · rw [HX.out, if_neg (fun e => hes (HT8.out.trans e.2))]
          have hesb : (T8.toList == s.toList) = false := by simpa using hes
          clear hes
          go_wp2_with fail
          refine bodyPost_ret (v := .tuple #[opV oz (.slice none 0 0), .bool false]) ?_ rfl ⟨_, by rw [HE.out]; rfl, by rw [HE.out]; exact fun W _ => ⟨_, rfl, DtsAt.nil _⟩, ?_⟩
          · simp [results, Tryz.results63, opV, oz, go_sem, asAddr, Result.andThen, r0, r1, r2, r3, r4, r5]
            rfl
          · exact six6_below KB9.out (Nat.le_refl _) _ _ _ _ _ _
      · clear hnn
        have o0 : wr.cell? ⟨w.heap.size + 1, 0, none⟩ = some (.int .i64 a) := cell_of KO.out rfl
        have o1 : wr.cell? ⟨w.heap.size + 1, 1, none⟩ = some (.int .i64 b) := cell_of KO.out rfl
        have o2 : wr.cell? ⟨w.heap.size + 1, 2, none⟩ = some (.int .i64 t) := cell_of KO.out rfl
        have o3 : wr.cell? ⟨w.heap.size + 1, 3, none⟩ = some (.string P) := cell_of KO.out rfl
        have o4 : wr.cell? ⟨w.heap.size + 1, 4, none⟩ = some (.int .i64 0) := cell_of KO.out rfl
        have o5 : wr.cell? ⟨w.heap.size + 1, 5, none⟩ = some (.slice p0 n0 c0) := cell_of KO.out rfl
        go_wp2_with fail
        clear o0 o1 o2 o3 o4 o5
        have CO := op_ref a b t P (0) (.slice p0 n0 c0) (TT) wr hPm (HV.out wr (fun _ _ _ => rfl))
        by_cases hop : opE ((a, b), t, P, 0, TT) = 0
        case neg =>
          have HE : Hid (decB s.toList = none) := by
            unfold Hid decB
            split
            · rfl
            · rw [HX.out, if_neg (fun e => hop e.1)]
          obtain ⟨q, hq⟩ : ∃ q, q = opE ((a, b), t, P, 0, TT) := ⟨_, rfl⟩
          have hqn : (q != 0) = true := by rw [hq]; simpa using hop
          rw [← hq] at CO
          clear hq hop
          refine CO.mono ?_
          rintro e w8 ⟨rfl, hb8⟩
          have KB8 : Hid (Below w.heap.size w w8) := bel K7.out hb8
          have R : Hid (w8.heap[w.heap.size]? = some (.cells Z6 30 (0, 0))) := keep_heap hb8 KR.out
          have r0 : w8.cell? ⟨w.heap.size, 0, none⟩ = some (.int .i64 0) := cell_of R.out rfl
          have r1 : w8.cell? ⟨w.heap.size, 1, none⟩ = some (.int .i64 0) := cell_of R.out rfl
          have r2 : w8.cell? ⟨w.heap.size, 2, none⟩ = some (.int .i64 0) := cell_of R.out rfl
          have r3 : w8.cell? ⟨w.heap.size, 3, none⟩ = some (.string ⟨#[]⟩) := cell_of R.out rfl
          have r4 : w8.cell? ⟨w.heap.size, 4, none⟩ = some (.int .i64 0) := cell_of R.out rfl
          have r5 : w8.cell? ⟨w.heap.size, 5, none⟩ = some (.slice none 0 0) := cell_of R.out rfl
          have fr0 : w8.frozen? ⟨w.heap.size, 0, none⟩ = false := free_of R.out
          have fr1 : w8.frozen? ⟨w.heap.size, 1, none⟩ = false := free_of R.out
          have fr2 : w8.frozen? ⟨w.heap.size, 2, none⟩ = false := free_of R.out
          have fr3 : w8.frozen? ⟨w.heap.size, 3, none⟩ = false := free_of R.out
          have fr4 : w8.frozen? ⟨w.heap.size, 4, none⟩ = false := free_of R.out
          have fr5 : w8.frozen? ⟨w.heap.size, 5, none⟩ = false := free_of R.out
          clear hb8 CO
          go_wp2_with fail
          refine bodyPost_ret (v := .tuple #[opV oz (.slice none 0 0), .bool false]) ?_ rfl ⟨_, by rw [HE.out]; rfl, by rw [HE.out]; exact fun W _ => ⟨_, rfl, DtsAt.nil _⟩, ?_⟩
          · simp [results, Tryz.results63, opV, oz, go_sem, asAddr, Result.andThen, r0, r1, r2, r3, r4, r5]
            rfl
          · exact six6_below KB8.out (Nat.le_refl _) _ _ _ _ _ _
        rw [hop] at CO
        refine CO.mono ?_
        rintro e w8 ⟨rfl, hb8⟩
        have KB8 : Hid (Below w.heap.size w w8) := bel K7.out hb8
        have KR8 : Hid (w8.heap[w.heap.size]? = some (.cells Z6 30 (0, 0))) := keep_heap hb8 KR.out
        have O : Hid (w8.heap[w.heap.size + 1]? = some (.cells #[.int .i64 a, .int .i64 b, .int .i64 t, .string P, .int .i64 (0), .slice p0 n0 c0] 30 (0, 0))) := keep_heap hb8 KO.out
        have HS8 : Hid (wr.heap.size ≤ w8.heap.size) := hb8.size
        have HK8 : Hid (∀ k, k < wr.heap.size → w8.heap[k]? = wr.heap[k]?) := hb8.block
        have o0 : w8.cell? ⟨w.heap.size + 1, 0, none⟩ = some (.int .i64 a) := cell_of O.out rfl
        have o1 : w8.cell? ⟨w.heap.size + 1, 1, none⟩ = some (.int .i64 b) := cell_of O.out rfl
        have o2 : w8.cell? ⟨w.heap.size + 1, 2, none⟩ = some (.int .i64 t) := cell_of O.out rfl
        have o3 : w8.cell? ⟨w.heap.size + 1, 3, none⟩ = some (.string P) := cell_of O.out rfl
        have o4 : w8.cell? ⟨w.heap.size + 1, 4, none⟩ = some (.int .i64 (0)) := cell_of O.out rfl
        have o5 : w8.cell? ⟨w.heap.size + 1, 5, none⟩ = some (.slice p0 n0 c0) := cell_of O.out rfl
        have CB := bytes_ref a b t P (0) (.slice p0 n0 c0) (TT) w8 (HV.out w8 (fun k _ hk => HK8.out k hk)) hop
        obtain ⟨T8, hT8⟩ : ∃ T8, T8 = bytesS ((a, b), t, P, 0, TT) := ⟨_, rfl⟩
        rw [← hT8] at CB
        have HT8 : Hid (T8.toList = bytesB ((a, b), t, P, 0, TT)) := by unfold Hid; rw [hT8, bytesS_list]
        have HOP : Hid (opE ((a, b), t, P, 0, TT) = 0) := hop
        clear hb8 CO hT8 hop
        go_wp2_with fail
        refine CB.mono ?_
        rintro e w9 ⟨rfl, hb9⟩
        have KB9 : Hid (Below w.heap.size w w9) := bel KB8.out hb9
        have R : Hid (w9.heap[w.heap.size]? = some (.cells Z6 30 (0, 0))) := keep_heap hb9 KR8.out
        have r0 : w9.cell? ⟨w.heap.size, 0, none⟩ = some (.int .i64 0) := cell_of R.out rfl
        have r1 : w9.cell? ⟨w.heap.size, 1, none⟩ = some (.int .i64 0) := cell_of R.out rfl
        have r2 : w9.cell? ⟨w.heap.size, 2, none⟩ = some (.int .i64 0) := cell_of R.out rfl
        have r3 : w9.cell? ⟨w.heap.size, 3, none⟩ = some (.string ⟨#[]⟩) := cell_of R.out rfl
        have r4 : w9.cell? ⟨w.heap.size, 4, none⟩ = some (.int .i64 0) := cell_of R.out rfl
        have r5 : w9.cell? ⟨w.heap.size, 5, none⟩ = some (.slice none 0 0) := cell_of R.out rfl
        have fr0 : w9.frozen? ⟨w.heap.size, 0, none⟩ = false := free_of R.out
        have fr1 : w9.frozen? ⟨w.heap.size, 1, none⟩ = false := free_of R.out
        have fr2 : w9.frozen? ⟨w.heap.size, 2, none⟩ = false := free_of R.out
        have fr3 : w9.frozen? ⟨w.heap.size, 3, none⟩ = false := free_of R.out
        have fr4 : w9.frozen? ⟨w.heap.size, 4, none⟩ = false := free_of R.out
        have fr5 : w9.frozen? ⟨w.heap.size, 5, none⟩ = false := free_of R.out
        have KO9 : Hid (w9.heap[w.heap.size + 1]? = some (.cells #[.int .i64 a, .int .i64 b, .int .i64 t, .string P, .int .i64 (0), .slice p0 n0 c0] 30 (0, 0))) := keep_heap hb9 O.out
        have HK9 : Hid (∀ k, w.heap.size + 2 ≤ k → k < wr.heap.size → w9.heap[k]? = wr.heap[k]?) := fun k _ hk => (hb9.block k (Nat.lt_of_lt_of_le hk HS8.out)).trans (HK8.out k hk)
        have HS9 : Hid (wr.heap.size ≤ w9.heap.size) := Nat.le_trans HS8.out hb9.size
        clear o0 o1 o2 o3 o4 o5
        have x0 : w9.cell? ⟨w.heap.size + 1, 0, none⟩ = some (.int .i64 a) := cell_of KO9.out rfl
        have x1 : w9.cell? ⟨w.heap.size + 1, 1, none⟩ = some (.int .i64 b) := cell_of KO9.out rfl
        have x2 : w9.cell? ⟨w.heap.size + 1, 2, none⟩ = some (.int .i64 t) := cell_of KO9.out rfl
        have x3 : w9.cell? ⟨w.heap.size + 1, 3, none⟩ = some (.string P) := cell_of KO9.out rfl
        have x4 : w9.cell? ⟨w.heap.size + 1, 4, none⟩ = some (.int .i64 (0)) := cell_of KO9.out rfl
        have x5 : w9.cell? ⟨w.heap.size + 1, 5, none⟩ = some (.slice p0 n0 c0) := cell_of KO9.out rfl
        clear CB hb9
        by_cases hes : T8.toList = s.toList
        · have HE : Hid (decB s.toList = some ((a, b), t, P, 0, TT)) := decB_iff.2 ⟨HOP.out, by rw [← HT8.out]; exact hes⟩
          have hesb : (T8.toList == s.toList) = true := by simpa using hes
          have HV9 : Hid (∀ x0 x1 x2 x3 x4 x5 W, (∀ k, w.heap.size ≤ k → k < (six6 w9 w.heap.size x0 x1 x2 x3 x4 x5).heap.size → W.heap[k]? = (six6 w9 w.heap.size x0 x1 x2 x3 x4 x5).heap[k]?) → DtsAt W (.slice p0 n0 c0) (TT)) := fun x0 x1 x2 x3 x4 x5 W hW => HV.out _ (fun k hk1 hk2 => (hW k (by omega) (by rw [six6_size]; exact Nat.lt_of_lt_of_le hk2 HS9.out)).trans ((six6_block _ _ _ _ _ _ _ _ _ (by omega)).trans (HK9.out k hk1 hk2)))
          clear hes
          go_wp2_with fail
          refine bodyPost_ret (v := .tuple #[opV ((a, b), t, P, 0, TT) (.slice p0 n0 c0), .bool true]) ?_ rfl ⟨_, by rw [HE.out]; rfl, by rw [HE.out]; exact fun W hW => ⟨_, rfl, HV9.out _ _ _ _ _ _ W hW⟩, ?_⟩
          · simp [results, Tryz.results63, opV, go_sem, asAddr, Result.andThen, r0, r1, r2, r3, r4, r5]
          · exact six6_below KB9.out (Nat.le_refl _) _ _ _ _ _ _
        · have HE : Hid (decB s.toList = none) := by
            unfold Hid decB
            split
            · rfl
            · rw [HX.out, if_neg (fun e => hes (HT8.out.trans e.2))]
          have hesb : (T8.toList == s.toList) = false := by simpa using hes
          clear hes
          go_wp2_with fail
          refine bodyPost_ret (v := .tuple #[opV oz (.slice none 0 0), .bool false]) ?_ rfl ⟨_, by rw [HE.out]; rfl, by rw [HE.out]; exact fun W _ => ⟨_, rfl, DtsAt.nil _⟩, ?_⟩
          · simp [results, Tryz.results63, opV, oz, go_sem, asAddr, Result.andThen, r0, r1, r2, r3, r4, r5]
            rfl
          · exact six6_below KB9.out (Nat.le_refl _) _ _ _ _ _ _

end Oh
end Go.Proofs.YtpoijhfojdmdpaaGreatDoor
/- What the reference's Pack answers, of ops that are right. -/
namespace Go.Proofs.YtpoijhfojdmdpaaGreatDoor
namespace Oj
set_option linter.unusedVariables false
open Go.ChangeShapes Go.WideShapes Go.ChangeAt Go.RowKit Cm Ka Kb Na Om Oa Oz Oc Od Oe Og Oi
open La (bel bel_drew errV_zero errV_ne own_ge own_grow own_below)

theorem each_step {l : List Ox} {k : Nat} (hk : k < l.length) : eachB (l.take (k + 1)) = eachB (l.take k) ++ (b2 (bytesB (l.getD k oz)).length ++ bytesB (l.getD k oz)) := by
  rw [List.take_add_one, List.getElem?_eq_getElem hk, List.getD_eq_getElem?_getD, List.getElem?_eq_getElem hk, eachB_append]
  show _ ++ eachB [l[k]] = _
  unfold eachB; simp
theorem each_len : ∀ (l : List Ox), (∀ o ∈ l, opE o = 0) → (eachB l).length ≤ 142 * l.length
  | [], _ => by simp [eachB]
  | o :: l, h => by
    have h1 := each_len l (fun x hx => h x (List.mem_cons_of_mem _ hx))
    have h2 := (bytes_le (h o (List.mem_cons_self ..))).2
    rw [eachB_cons, List.length_append, List.length_append, b2_len, List.length_cons]
    omega
set_option maxRecDepth 100000 in
set_option maxHeartbeats 2000000 in
theorem pack_ref (v : Value) (l : List Ox) (w : World) (h : OpsAt w v l) (h0 : ∀ o ∈ l, opE o = 0) (hn1 : l.length ≤ 400) :
    Calls Tryz.prog 11 #[v] w fun e w' => e = .returned (.string ⟨(packB l).toArray⟩) ∧ Below w.heap.size w w' := by
  obtain ⟨p, c, rfl, hin, _⟩ := h
  obtain ⟨n, hl⟩ : ∃ n, l.length = n := ⟨_, rfl⟩
  rw [hl] at hn1
  rw [hl]
  have HL : Hid (l.length = n) := hl
  have HI : Hid (OpsIn w p l) := hin
  have H0 : Hid (∀ o ∈ l, opE o = 0) := h0
  have HB2 : Hid (packB l = b2 (n : Int) ++ eachB l) := by unfold Hid packB; rw [hl]
  clear hl hin h0
  have hn1z : (n : Int) ≤ 400 := by omega
  go_enter Tryz.func11, Tryz.ntmps11
  go_wp2_with fail
  refine (two_ref w.heap.size (.slice none 0 0) [] (n : Int) w (Row.nil _ _) (by omega) (by omega) (by simp) (Nat.le_refl _)).mono ?_
  rintro e w1 ⟨v1, rfl, hr1, hb1, hs1⟩
  obtain ⟨p1, N1, c1, rfl, _⟩ := hr1.shape
  have HR1 : Hid (Row w1 w.heap.size (.slice p1 N1 c1) (b2 (n : Int) ++ eachB (l.take 0))) := hr1
  have HK1 : Hid (Below w.heap.size w w1) := hb1
  clear hr1 hb1
  go_wp2_with fail
  go_loopw [3, 4] (fun u i wr => ∃ (k : Nat), k ≤ n ∧ i = .int .i64 k ∧ (∃ P N C, u = .slice P N C) ∧ Hid (Row wr w.heap.size u (b2 (n : Int) ++ eachB (l.take k))) ∧ Hid (Below w.heap.size w wr) ∧ w.heap.size ≤ wr.heap.size) (fun _ i _ => n - (intOf i).toNat)
  case atStart => exact ⟨0, by omega, rfl, ⟨_, _, _, rfl⟩, HR1, HK1, hs1⟩
  case round =>
    clear HR1 HK1 hs1
    obtain ⟨k, hk, rfl, ⟨p1, N1, c1, rfl⟩, HR, HK, hsr⟩ := hrel
    by_cases hlt : k < n
    · have hltz : (k : Int) < n := by omega
      obtain ⟨b, o, rfl, hc⟩ := HI.out.some (by intro e; have := HL.out; rw [e] at this; simp at this; omega)
      have hkl : k < l.length := by rw [HL.out]; exact hlt
      have ha := (hc k hkl).below HK.out
      have hx0 := H0.out _ (getO_mem hkl)
      have HST := each_step hkl
      obtain ⟨x, hx⟩ : ∃ x, x = l.getD k oz := ⟨_, rfl⟩
      rw [← hx] at ha hx0 HST
      obtain ⟨⟨xa, xb⟩, xt, xp, xc, xs⟩ := x
      obtain ⟨vs, ⟨a0, a1, a2, a3, a4, a5⟩, hd⟩ := ha
      simp only at a0 a1 a2 a3 a4 a5 hd
      have CB := bytes_ref xa xb xt xp xc vs xs wr hd hx0
      have hby := bytes_le hx0
      obtain ⟨T, hT⟩ : ∃ T, T = bytesS ((xa, xb), xt, xp, xc, xs) := ⟨_, rfl⟩
      have hTl : T.toList = bytesB ((xa, xb), xt, xp, xc, xs) := by rw [hT, bytesS_list]
      rw [← hTl, Om.len_eq] at hby HST
      have HTS : Hid (eachB (l.take (k + 1)) = eachB (l.take k) ++ (b2 (T.size : Int) ++ T.toList)) := HST
      have hT140 : T.size ≤ 140 := hby.2
      have hT140z : (T.size : Int) ≤ 140 := by omega
      have hTm : T.size ≤ maxLen := by unfold maxLen; omega
      have HLE : Hid ((eachB (l.take k)).length ≤ 60000) := by
        unfold Hid
        have := each_len (l.take k) (fun o ho => H0.out o (List.mem_of_mem_take ho))
        rw [List.length_take] at this; omega
      have hcv := fun w => run_bytes_of_string (P := Tryz.prog) w 9 76 5 T Tryz.underlying9 Tryz.underlying76 Tryz.underlying5
      rw [← hT] at CB
      obtain ⟨Q, hQ⟩ : ∃ Q, Q = b2 (n : Int) ++ eachB (l.take k) := ⟨_, rfl⟩
      have HQ : Hid (b2 (n : Int) ++ eachB (l.take (k + 1)) = (Q ++ b2 (T.size : Int)) ++ T.toList) := by
        unfold Hid; rw [HTS.out, hQ]; simp
      have HQL : Hid (Q.length ≤ 60002) := by unfold Hid; rw [hQ, List.length_append, b2_len]; have := HLE.out; omega
      have HQL2 : Hid ((Q ++ b2 (T.size : Int)).length + T.size ≤ 1000000000) := by unfold Hid; rw [List.length_append, b2_len]; have := HQL.out; omega
      rw [← hQ] at HR
      clear hc hx hx0 HST hT hTl hby hd hkl hQ
      go_wp2_with fail
      refine CB.mono ?_
      rintro e w2 ⟨rfl, hb2⟩
      have HR2 : Hid (Row w2 w.heap.size (.slice p1 N1 c1) Q) := HR.out.below hb2
      have HK2 : Hid (Below w.heap.size w w2) := bel HK.out hb2
      have hs2 : w.heap.size ≤ w2.heap.size := HK2.out.size
      clear hb2 CB a0 a1 a2 a3 a4 a5
      go_wp2_with fail
      refine (two_ref w.heap.size (.slice p1 N1 c1) Q (T.size : Int) w2 HR2.out (by omega) (by omega) (by have := HQL.out; omega) hs2).mono ?_
      rintro e w3 ⟨v3, rfl, hr3, hb3, hs3⟩
      obtain ⟨p3, N3, c3, rfl, _⟩ := hr3.shape
      have HR3 : Hid (Row w3 w.heap.size (.slice p3 N3 c3) (Q ++ b2 (T.size : Int))) := hr3
      have HK3 : Hid (Below w.heap.size w w3) := HK2.out.trans hb3
      clear hr3 hb3
      go_wp2_with (at_builtin; refine wpList_putS _ rfl (.tmp 24) (.tmp 26) rfl w.heap.size (.slice p3 N3 c3) (Q ++ b2 (T.size : Int)) T _ _ rfl HR3.out _ rfl (by first | rfl | simp) HQL2.out hs3 ?_; intro v4 w4 hr4 hb4 hs4; obtain ⟨p4, N4, c4, rfl, _⟩ := hr4.shape; have HR4 : Hid (Row w4 w.heap.size (.slice p4 N4 c4) ((Q ++ b2 (T.size : Int)) ++ T.toList)) := hr4; have HK4 : Hid (Below w.heap.size w w4) := HK3.out.trans hb4; clear hr4 hb4 hcv)
      rw [← HQ.out] at HR4
      go_roundw
      case rel => exact ⟨k + 1, by omega, by go_num, ⟨_, _, _, rfl⟩, HR4, HK4, hs4⟩
      case measure => simp [intOf]; omega
    · obtain rfl : n = k := by omega
      have hltz : ¬ (n : Int) < n := by omega
      rw [List.take_of_length_le (by rw [HL.out]; exact Nat.le_refl _), ← HB2.out] at HR
      have hcv := HR.out.reads (by rw [HB2.out]; simp [b2])
      obtain ⟨T, hT⟩ : ∃ T : ByteArray, T = ⟨(packB l).toArray⟩ := ⟨_, rfl⟩
      rw [← hT] at hcv
      have HT : Hid (T = ⟨(packB l).toArray⟩) := hT
      clear hT hlt hk
      go_wp2_with fail
      go_ret
      exact ⟨by rw [HT.out]; rfl, HK.out⟩

end Oj
end Go.Proofs.YtpoijhfojdmdpaaGreatDoor
