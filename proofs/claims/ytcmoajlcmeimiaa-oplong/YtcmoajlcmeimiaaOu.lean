/- For every op: if it is encoded, its bytes are as many as its place's letters and six, one more of a write, and of a join one more and three for each dot that it saw. What package op answers is a premise here. -/
import Derived.Test.YtcmoajlcmeimiaaOv
namespace Go.Proofs.Ytcmoajlcmeimiaa
namespace Ou
set_option linter.unusedVariables false
open Go.ChangeShapes Go.WideShapes Go.ChangeAt Go.RowKit Cm Ka Kb Na Om Oa Oz Oc Og Oi Ov
open La (bel bel_drew errV_zero errV_ne own_ge own_grow own_below)

def fact1 : Ox := ((1, 1), 1, ⟨#[110, 98]⟩, 65, [])
theorem fact1_right : opE fact1 = 0 := by kernel_rfl
theorem fact1_len : (encS fact1).size = 9 := by
  unfold encS; rw [if_pos fact1_right, ← Om.len_eq, bytesS_list, bytesB_len]; rfl
theorem enc_len {x : Ox} (h : opE x = 0) : (encS x).size = 6 + x.2.2.1.size + (if x.2.1 = 1 then 1 else 0) + (if x.2.1 = 4 then 1 + 3 * x.2.2.2.2.length else 0) := by
  unfold encS; rw [if_pos h, ← Om.len_eq, bytesS_list, bytesB_len]

set_option maxRecDepth 100000 in
set_option maxHeartbeats 2000000 in
theorem walk (HE : EncodeSays) (a b t : Int) (p : ByteArray) (c : Int) (vs : Value) (s : List Dt) (w : World) (hd : DtsAt w vs s) (hp : p.size ≤ maxLen) :
    Calls Try.prog 5 #[.agg #[.int .i64 a, .int .i64 b, .int .i64 t, .string p, .int .i64 c, vs]] w fun e w' => e = .returned (.bool true) ∧ Below w.heap.size w w' := by
  obtain ⟨ps, cs, hvs, _⟩ := id hd
  obtain ⟨n, hn⟩ : ∃ n, n = s.length := ⟨_, rfl⟩
  rw [← hn] at hvs
  subst hvs
  have HLN : Hid (s.length = n) := hn.symm
  clear hn
  have C1 := HE 1 1 1 ⟨#[110, 98]⟩ 65 (.slice none 0 0) [] (w.alloc (.cells #[.int .i64 a, .int .i64 b, .int .i64 t, .string p, .int .i64 c, .slice ps n cs] 39)) (DtsAt.nil _) (by decide)
  rw [show opE ((1, 1), 1, ⟨#[110, 98]⟩, 65, []) = 0 from fact1_right, errV_zero, show encS ((1, 1), 1, ⟨#[110, 98]⟩, 65, []) = encS fact1 from rfl] at C1
  obtain ⟨T, hT⟩ : ∃ T, T = encS fact1 := ⟨_, rfl⟩
  have hTs : T.size = 9 := by rw [hT]; exact fact1_len
  have hTb : ((T.size : Int) != 9) = false := by rw [hTs]; rfl
  rw [← hT] at C1
  clear hT hTs
  have HS : Hid (∀ W, Below (w.alloc (.cells #[.int .i64 a, .int .i64 b, .int .i64 t, .string p, .int .i64 c, .slice ps n cs] 39)).heap.size (w.alloc (.cells #[.int .i64 a, .int .i64 b, .int .i64 t, .string p, .int .i64 c, .slice ps n cs] 39)) W → Six W w.heap.size a b t p c (.slice ps n cs) ∧ DtsAt W (.slice ps n cs) s ∧ Below w.heap.size w W) := by
    intro W hb
    have hbw := bel_new (Below.refl _ w) hb
    exact ⟨(six_new w a b t p c (.slice ps n cs) 39).below hb, hd.below hbw, hbw⟩
  have HEE : Hid (∀ W, DtsAt W (.slice ps n cs) s → Calls Try.prog 11 #[.agg #[.int .i64 a, .int .i64 b, .int .i64 t, .string p, .int .i64 c, .slice ps n cs]] W fun e w' => e = .returned (.tuple #[.string (encS ((a, b), t, p, c, s)), errV (opE ((a, b), t, p, c, s))]) ∧ Below W.heap.size W w') := fun W hW => HE a b t p c _ s W hW hp
  obtain ⟨EN, hEN⟩ : ∃ EN, EN = encS ((a, b), t, p, c, s) := ⟨_, rfl⟩
  rw [← hEN] at HEE
  by_cases h0 : opE ((a, b), t, p, c, s) = 0
  case neg =>
    obtain ⟨q, hq⟩ : ∃ q, q = opE ((a, b), t, p, c, s) := ⟨_, rfl⟩
    rw [errV_ne h0, ← hq] at HEE
    clear h0 hq hEN hd hp
    go_enter Try.func5, Try.ntmps5
    go_wp2_with fail
    refine C1.mono ?_
    rintro e w1 ⟨rfl, hb1⟩
    obtain ⟨⟨d0, d1, d2, d3, d4, d5⟩, hdd, hbw⟩ := HS.out w1 hb1
    have K1 : Hid (Below w.heap.size w w1) := hbw
    have C2 := HEE.out w1 hdd
    clear hb1 C1 hdd hbw
    go_wp2_with fail
    refine C2.mono ?_
    rintro e w2 ⟨rfl, hb2⟩
    have K2 : Hid (Below w.heap.size w w2) := bel K1.out hb2
    clear hb2 C2
    go_wp2_with fail
    go_ret
    exact ⟨rfl, K2.out⟩
  have hlen := enc_len h0
  rw [← hEN] at hlen
  simp only at hlen
  rw [HLN.out] at hlen
  rw [h0, errV_zero] at HEE
  obtain ⟨_, _, e3, e4⟩ := opE_zero.1 h0
  have hpl := Bm.chk_pos e3
  rw [Om.len_eq] at hpl
  have hp12 : p.size ≤ 12 := hpl.2
  have hn40 : n ≤ 40 := by have := (lawOf_zero.1 e4).2.2.2.1; rw [← HLN.out]; exact this
  have hp12z : (p.size : Int) ≤ 12 := by omega
  have hn40z : (n : Int) ≤ 40 := by omega
  clear hd hEN h0 e3 e4 hpl
  by_cases t1 : t = 1
  · have t1b : (t == 1) = true := by simpa using t1
    have t4b : (t == 4) = false := by rw [t1]; rfl
    have hE : Hid (((EN.size : Int) == 6 + (p.size : Int) + 1) = true) := by
      rw [if_pos t1, if_neg (by rw [t1]; decide)] at hlen
      unfold Hid; rw [beq_iff_eq]; omega
    have hEo := hE.out
    clear t1 hlen
    go_enter Try.func5, Try.ntmps5
    go_wp2_with fail
    refine C1.mono ?_
    rintro e w1 ⟨rfl, hb1⟩
    obtain ⟨⟨d0, d1, d2, d3, d4, d5⟩, hdd, hbw⟩ := HS.out w1 hb1
    have K1 : Hid (Below w.heap.size w w1) := hbw
    have KX : Hid (∀ W, Below w1.heap.size w1 W → Six W w.heap.size a b t p c (.slice ps n cs)) := fun W hb => (HS.out w1 hb1).1.below hb
    have C2 := HEE.out w1 hdd
    clear hb1 C1 hdd hbw
    go_wp2_with fail
    refine C2.mono ?_
    rintro e w2 ⟨rfl, hb2⟩
    have K2 : Hid (Below w.heap.size w w2) := bel K1.out hb2
    clear d0 d1 d2 d3 d4 d5
    obtain ⟨d0, d1, d2, d3, d4, d5⟩ := KX.out w2 hb2
    clear hb2 C2
    go_wp2_with fail
    go_ret
    exact ⟨ret_bool (by first | rfl | exact hEo | (simp; omega)), K2.out⟩
  · have t1b : (t == 1) = false := by simpa using t1
    by_cases t4 : t = 4
    · have t4b : (t == 4) = true := by simpa using t4
      have hEo : ((EN.size : Int) == 6 + (p.size : Int) + 1 + 3 * (n : Int)) = true := by
        rw [if_neg t1, if_pos t4] at hlen
        rw [beq_iff_eq]; omega
      clear t1 t4 hlen
      go_enter Try.func5, Try.ntmps5
      go_wp2_with fail
      refine C1.mono ?_
      rintro e w1 ⟨rfl, hb1⟩
      obtain ⟨⟨d0, d1, d2, d3, d4, d5⟩, hdd, hbw⟩ := HS.out w1 hb1
      have K1 : Hid (Below w.heap.size w w1) := hbw
      have KX : Hid (∀ W, Below w1.heap.size w1 W → Six W w.heap.size a b t p c (.slice ps n cs)) := fun W hb => (HS.out w1 hb1).1.below hb
      have C2 := HEE.out w1 hdd
      clear hb1 C1 hdd hbw
      go_wp2_with fail
      refine C2.mono ?_
      rintro e w2 ⟨rfl, hb2⟩
      have K2 : Hid (Below w.heap.size w w2) := bel K1.out hb2
      clear d0 d1 d2 d3 d4 d5
      obtain ⟨d0, d1, d2, d3, d4, d5⟩ := KX.out w2 hb2
      clear hb2 C2
      go_wp2_with fail
      go_ret
      exact ⟨ret_bool (by first | rfl | exact hEo | (simp; omega)), K2.out⟩
    · have t4b : (t == 4) = false := by simpa using t4
      have hEo : ((EN.size : Int) == 6 + (p.size : Int)) = true := by
        rw [if_neg t1, if_neg t4] at hlen
        rw [beq_iff_eq]; omega
      clear t1 t4 hlen
      go_enter Try.func5, Try.ntmps5
      go_wp2_with fail
      refine C1.mono ?_
      rintro e w1 ⟨rfl, hb1⟩
      obtain ⟨⟨d0, d1, d2, d3, d4, d5⟩, hdd, hbw⟩ := HS.out w1 hb1
      have K1 : Hid (Below w.heap.size w w1) := hbw
      have KX : Hid (∀ W, Below w1.heap.size w1 W → Six W w.heap.size a b t p c (.slice ps n cs)) := fun W hb => (HS.out w1 hb1).1.below hb
      have C2 := HEE.out w1 hdd
      clear hb1 C1 hdd hbw
      go_wp2_with fail
      refine C2.mono ?_
      rintro e w2 ⟨rfl, hb2⟩
      have K2 : Hid (Below w.heap.size w w2) := bel K1.out hb2
      clear d0 d1 d2 d3 d4 d5
      obtain ⟨d0, d1, d2, d3, d4, d5⟩ := KX.out w2 hb2
      clear hb2 C2
      go_wp2_with fail
      go_ret
      exact ⟨ret_bool (by first | rfl | exact hEo | (simp; omega)), K2.out⟩

end Ou
end Go.Proofs.Ytcmoajlcmeimiaa
