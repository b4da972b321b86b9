/- The walk of OpTells: what is asked of package op is a premise here. -/
import Derived.Test.YtcmoajlcmeimiaaDoorOv
import Derived.Test.YtcmoajlcmeimiaaDoorOj
import Derived.Test.YtcmoajlcmeimiaaDoorOk
import Derived.Test.YtcmoajlcmeimiaaDoorOl
import Derived.Test.YtcmoajlcmeimiaaDoorKl
import Derived.Deep.DeepCutAuto
namespace Go.Proofs.YtcmoajlcmeimiaaDoor
namespace Ow
set_option linter.unusedVariables false
open Go.ChangeShapes Go.WideShapes Go.ChangeAt Go.RowKit Cm Ka Kb Na Om Oa Oz Oc Od Oe Og Ob Oi Oh Oj Ok Ol Ov Kt Kl
open La (bel bel_drew errV_zero errV_ne own_ge own_grow own_below)

theorem err_same (q : Int) (w : World) (hg : ET w) : Calls Tryd.prog 7 #[errV q, .int .i64 q] w fun e w' => e = .returned (.bool true) ∧ Below w.heap.size w w' := by
  refine (same_any q q w hg).mono ?_
  rintro e w' ⟨rfl, hb⟩
  exact ⟨by rw [beq_self_eq_true], hb⟩
theorem op_same (ya yb yt : Int) (yp : ByteArray) (yc : Int) (v u : Value) (ys : List Dt) (w : World) (h1 : DtsAt w v ys) (h2 : DtsAt w u ys) (hn : ys.length ≤ 1048576) :
    Calls Tryd.prog 27 #[.agg #[.int .i64 ya, .int .i64 yb, .int .i64 yt, .string yp, .int .i64 yc, v], .agg #[.int .i64 ya, .int .i64 yb, .int .i64 yt, .string yp, .int .i64 yc, u]] w fun e w' => e = .returned (.bool true) ∧ Below w.heap.size w w' := by
  have := same_op ya yb yt yp yc v ys ya yb yt yp yc u ys w h1 h2 hn
  rw [decide_eq_true rfl] at this; exact this
theorem ops_same (v u : Value) (l : List Ox) (w : World) (h1 : OpsAt w v l) (h2 : OpsAt w u l) (hn : l.length ≤ 1048576) (hm : ∀ x ∈ l, x.2.2.2.2.length ≤ 1048576) : Calls Tryd.prog 32 #[v, u] w fun e w' => e = .returned (.bool true) ∧ Below w.heap.size w w' := by
  have := same_ops v u l l w h1 h2 hn hm
  rw [decide_eq_true rfl] at this; exact this

set_option maxRecDepth 100000 in
set_option maxHeartbeats 16000000 in
theorem walk (HC : CheckSays) (HE : EncodeSays) (HD : DecodeSays) (HP : PackSays) (HU : UnpackSays) (a b t : Int) (p : ByteArray) (c : Int) (vs : Value) (s : List Dt) (bs : ByteArray) (lv : Value) (l : List Ox) (cb : ByteArray) (w : World) (hd : DtsAt w vs s) (hp : p.size ≤ maxLen) (hbs : bs.size ≤ maxLen) (hl : OpsAt w lv l) (hlp : ∀ x ∈ l, x.2.2.1.size ≤ maxLen) (hcb : cb.size ≤ maxLen) (hg : ET w) :
    Calls Tryd.prog 5 #[.agg #[.int .i64 a, .int .i64 b, .int .i64 t, .string p, .int .i64 c, vs], .string bs, lv, .string cb] w fun e w' => e = .returned (.bool true) ∧ Below w.heap.size w w' := by
  obtain ⟨ps, cs, hvs, _⟩ := id hd
  obtain ⟨n, hn⟩ : ∃ n, n = s.length := ⟨_, rfl⟩
  rw [← hn] at hvs
  subst hvs
  clear hn
  obtain ⟨pl, cl, hlv, hlin, _, hclm, _⟩ := id hl
  obtain ⟨m, hml⟩ : ∃ m, m = l.length := ⟨_, rfl⟩
  rw [← hml] at hlv
  subst hlv
  have hm63 : m ≤ maxLen := by omega
  unfold maxLen at hm63
  have HML : Hid (l.length = m) := hml.symm
  clear hml hclm hlin
  have HS : Hid (∀ W, Below (w.alloc (.cells #[.int .i64 a, .int .i64 b, .int .i64 t, .string p, .int .i64 c, .slice ps n cs] 53)).heap.size (w.alloc (.cells #[.int .i64 a, .int .i64 b, .int .i64 t, .string p, .int .i64 c, .slice ps n cs] 53)) W → Six W w.heap.size a b t p c (.slice ps n cs) ∧ DtsAt W (.slice ps n cs) s ∧ Below w.heap.size w W) := by
    intro W hb
    have hbw := bel_new (Below.refl _ w) hb
    exact ⟨(six_new w a b t p c (.slice ps n cs) 53).below hb, hd.below hbw, hbw⟩
  have HG : Hid (∀ W, Below (w.alloc (.cells #[.int .i64 a, .int .i64 b, .int .i64 t, .string p, .int .i64 c, .slice ps n cs] 53)).heap.size (w.alloc (.cells #[.int .i64 a, .int .i64 b, .int .i64 t, .string p, .int .i64 c, .slice ps n cs] 53)) W → ET W) := fun W hb => Kl.ET.below hg (HS.out W hb).2.2
  have HLS : Hid (∀ W, Below (w.alloc (.cells #[.int .i64 a, .int .i64 b, .int .i64 t, .string p, .int .i64 c, .slice ps n cs] 53)).heap.size (w.alloc (.cells #[.int .i64 a, .int .i64 b, .int .i64 t, .string p, .int .i64 c, .slice ps n cs] 53)) W → OpsAt W (.slice pl m cl) l) := fun W hb => hl.below (HS.out W hb).2.2
  have HQ : Hid (∀ W, Below (w.alloc (.cells #[.int .i64 a, .int .i64 b, .int .i64 t, .string p, .int .i64 c, .slice ps n cs] 53)).heap.size (w.alloc (.cells #[.int .i64 a, .int .i64 b, .int .i64 t, .string p, .int .i64 c, .slice ps n cs] 53)) W → Calls Tryd.prog 21 #[.agg #[.int .i64 a, .int .i64 b, .int .i64 t, .string p, .int .i64 c, .slice ps n cs]] W fun e w' => e = .returned (.int .i64 (opE ((a, b), t, p, c, s))) ∧ Below W.heap.size W w') := fun W hb => op_ref a b t p c _ s W hp (HS.out W hb).2.1
  have HCC : Hid (∀ W, Below (w.alloc (.cells #[.int .i64 a, .int .i64 b, .int .i64 t, .string p, .int .i64 c, .slice ps n cs] 53)).heap.size (w.alloc (.cells #[.int .i64 a, .int .i64 b, .int .i64 t, .string p, .int .i64 c, .slice ps n cs] 53)) W → Calls Tryd.prog 22 #[.agg #[.int .i64 a, .int .i64 b, .int .i64 t, .string p, .int .i64 c, .slice ps n cs]] W fun e w' => e = .returned (errV (opE ((a, b), t, p, c, s))) ∧ Below W.heap.size W w') := fun W hb => HC a b t p c _ s W (HS.out W hb).2.1 hp
  have HEE : Hid (∀ W, Below (w.alloc (.cells #[.int .i64 a, .int .i64 b, .int .i64 t, .string p, .int .i64 c, .slice ps n cs] 53)).heap.size (w.alloc (.cells #[.int .i64 a, .int .i64 b, .int .i64 t, .string p, .int .i64 c, .slice ps n cs] 53)) W → Calls Tryd.prog 24 #[.agg #[.int .i64 a, .int .i64 b, .int .i64 t, .string p, .int .i64 c, .slice ps n cs]] W fun e w' => e = .returned (.tuple #[.string (encS ((a, b), t, p, c, s)), errV (opE ((a, b), t, p, c, s))]) ∧ Below W.heap.size W w') := fun W hb => HE a b t p c _ s W (HS.out W hb).2.1 hp
  have HBB : Hid (opE ((a, b), t, p, c, s) = 0 → ∀ W, Below (w.alloc (.cells #[.int .i64 a, .int .i64 b, .int .i64 t, .string p, .int .i64 c, .slice ps n cs] 53)).heap.size (w.alloc (.cells #[.int .i64 a, .int .i64 b, .int .i64 t, .string p, .int .i64 c, .slice ps n cs] 53)) W → Calls Tryd.prog 23 #[.agg #[.int .i64 a, .int .i64 b, .int .i64 t, .string p, .int .i64 c, .slice ps n cs]] W fun e w' => e = .returned (.string (encS ((a, b), t, p, c, s))) ∧ Below W.heap.size W w') := by
    intro h0 W hb
    have := bytes_ref a b t p c _ s W (HS.out W hb).2.1 h0
    unfold encS; rw [if_pos h0]; exact this
  have HNE : Hid (opE ((a, b), t, p, c, s) ≠ 0 → encS ((a, b), t, p, c, s) = ⟨#[]⟩) := by intro h0; unfold encS; rw [if_neg h0]
  have HPP : Hid (∀ W, Below (w.alloc (.cells #[.int .i64 a, .int .i64 b, .int .i64 t, .string p, .int .i64 c, .slice ps n cs] 53)).heap.size (w.alloc (.cells #[.int .i64 a, .int .i64 b, .int .i64 t, .string p, .int .i64 c, .slice ps n cs] 53)) W → Calls Tryd.prog 29 #[.slice pl m cl] W fun e w' => e = .returned (.tuple #[.string (packS l), errV (packE l)]) ∧ Below W.heap.size W w') := fun W hb => HP _ l W (HLS.out W hb) hlp
  have HRP : Hid (packE l = 0 → ∀ W, Below (w.alloc (.cells #[.int .i64 a, .int .i64 b, .int .i64 t, .string p, .int .i64 c, .slice ps n cs] 53)).heap.size (w.alloc (.cells #[.int .i64 a, .int .i64 b, .int .i64 t, .string p, .int .i64 c, .slice ps n cs] 53)) W → Calls Tryd.prog 28 #[.slice pl m cl] W fun e w' => e = .returned (.string (packS l)) ∧ Below W.heap.size W w') := by
    intro h0 W hb
    have := pack_ref _ l W (HLS.out W hb) (packE_zero.1 h0).2 (packE_zero.1 h0).1
    unfold packS; rw [if_pos h0]; exact this
  have HNP : Hid (packE l ≠ 0 → packS l = ⟨#[]⟩) := by intro h0; unfold packS; rw [if_neg h0]
  have HLP : Hid (∀ x ∈ l, x.2.2.1.size ≤ maxLen) := hlp
  obtain ⟨q, hq⟩ : ∃ q, q = opE ((a, b), t, p, c, s) := ⟨_, rfl⟩
  obtain ⟨EN, hEN⟩ : ∃ EN, EN = encS ((a, b), t, p, c, s) := ⟨_, rfl⟩
  rw [← hq] at HQ HCC HEE HBB HNE
  rw [← hEN] at HEE HBB HNE
  obtain ⟨PK, hPK⟩ : ∃ PK, PK = packS l := ⟨_, rfl⟩
  obtain ⟨pe, hpe⟩ : ∃ pe, pe = packE l := ⟨_, rfl⟩
  rw [← hPK, ← hpe] at HPP HNP HRP
  have HPE : Hid (pe = packE l) := hpe
  clear hd hl hlp hg hq hEN hPK hpe hp
  go_enter Tryd.func5, Tryd.ntmps5
  have C1 := HQ.out (w.alloc (.cells #[.int .i64 a, .int .i64 b, .int .i64 t, .string p, .int .i64 c, .slice ps n cs] 53)) (Below.refl _ _)
  go_wp2_with fail
  refine C1.mono ?_
  rintro e w1 ⟨rfl, hb1⟩
  have K1 : Hid (Below (w.alloc (.cells #[.int .i64 a, .int .i64 b, .int .i64 t, .string p, .int .i64 c, .slice ps n cs] 53)).heap.size (w.alloc (.cells #[.int .i64 a, .int .i64 b, .int .i64 t, .string p, .int .i64 c, .slice ps n cs] 53)) w1) := bel (Below.refl _ _) hb1
  obtain ⟨⟨d0, d1, d2, d3, d4, d5⟩, _, _⟩ := HS.out _ K1.out
  clear hb1 C1
  have C2 := HCC.out w1 K1.out
  go_wp2_with fail
  refine C2.mono ?_
  rintro e w2 ⟨rfl, hb2⟩
  have K2 : Hid (Below (w.alloc (.cells #[.int .i64 a, .int .i64 b, .int .i64 t, .string p, .int .i64 c, .slice ps n cs] 53)).heap.size (w.alloc (.cells #[.int .i64 a, .int .i64 b, .int .i64 t, .string p, .int .i64 c, .slice ps n cs] 53)) w2) := bel (K1.out) hb2
  clear hb2 C2
  clear d0 d1 d2 d3 d4 d5
  have C3 := err_same q w2 (HG.out w2 K2.out)
  go_wp2_with fail
  refine C3.mono ?_
  rintro e w3 ⟨rfl, hb3⟩
  have K3 : Hid (Below (w.alloc (.cells #[.int .i64 a, .int .i64 b, .int .i64 t, .string p, .int .i64 c, .slice ps n cs] 53)).heap.size (w.alloc (.cells #[.int .i64 a, .int .i64 b, .int .i64 t, .string p, .int .i64 c, .slice ps n cs] 53)) w3) := bel (K2.out) hb3
  obtain ⟨⟨d0, d1, d2, d3, d4, d5⟩, _, _⟩ := HS.out _ K3.out
  clear hb3 C3
  go_upto_if 35 with fail
  go_cut [11] from 34 to 37 (fun s11 wx => s11 = .string EN ∧ Hid (Below w3.heap.size w3 wx))
  case first =>
    by_cases h0 : q = 0
    · have hqb : (q == 0) = true := by simpa using h0
      have C4 := HBB.out h0 w3 K3.out
      clear h0
      go_wp2_with fail
      refine C4.mono ?_
      rintro e w4 ⟨rfl, hb4⟩
      have K4 : Hid (Below w3.heap.size w3 w4) := hb4
      clear hb4 C4
      go_wp2_with fail
      go_meet
      case rel => exact ⟨rfl, K4⟩
    · have hqb : (q == 0) = false := by simpa using h0
      have h9 := HNE.out h0
      clear h0
      go_wp2_with fail
      go_meet
      case rel => exact ⟨by rw [h9], Below.refl _ _⟩
  case rest =>
  obtain ⟨rfl, hkc⟩ := hcut
  have K4 : Hid (Below (w.alloc (.cells #[.int .i64 a, .int .i64 b, .int .i64 t, .string p, .int .i64 c, .slice ps n cs] 53)).heap.size (w.alloc (.cells #[.int .i64 a, .int .i64 b, .int .i64 t, .string p, .int .i64 c, .slice ps n cs] 53)) wc) := bel K3.out hkc.out
  clear hkc HBB HNE d0 d1 d2 d3 d4 d5
  obtain ⟨⟨d0, d1, d2, d3, d4, d5⟩, _, _⟩ := HS.out _ K4.out
  have C5 := HEE.out wc K4.out
  go_wp2_with fail
  refine C5.mono ?_
  rintro e w5 ⟨rfl, hb5⟩
  have K5 : Hid (Below (w.alloc (.cells #[.int .i64 a, .int .i64 b, .int .i64 t, .string p, .int .i64 c, .slice ps n cs] 53)).heap.size (w.alloc (.cells #[.int .i64 a, .int .i64 b, .int .i64 t, .string p, .int .i64 c, .slice ps n cs] 53)) w5) := bel (K4.out) hb5
  clear hb5 C5
  clear d0 d1 d2 d3 d4 d5
  have C6 := err_same q w5 (HG.out w5 K5.out)
  go_wp2_with fail
  refine C6.mono ?_
  rintro e w6 ⟨rfl, hb6⟩
  have K6 : Hid (Below (w.alloc (.cells #[.int .i64 a, .int .i64 b, .int .i64 t, .string p, .int .i64 c, .slice ps n cs] 53)).heap.size (w.alloc (.cells #[.int .i64 a, .int .i64 b, .int .i64 t, .string p, .int .i64 c, .slice ps n cs] 53)) w6) := bel (K5.out) hb6
  clear hb6 C6
  obtain ⟨y, hy⟩ : ∃ y, y = (decB bs.toList).getD oz := ⟨_, rfl⟩
  obtain ⟨tb, htb⟩ : ∃ tb, tb = (decB bs.toList).isSome := ⟨_, rfl⟩
  obtain ⟨de, hde⟩ : ∃ de, de = decE bs := ⟨_, rfl⟩
  have HTB : Hid (de = if tb then 0 else 2) := by unfold Hid; rw [hde, htb]; rfl
  have HYL : Hid (y.2.2.2.2.length ≤ 1048576) := by rw [hy]; exact dec_len
  have HRD : Hid (∀ W, Calls Tryd.prog 25 #[.string bs] W fun e w' => ∃ u, e = .returned (.tuple #[u, .bool tb]) ∧ Kept W.heap.size w' u y ∧ Below W.heap.size W w') := by
    intro W; rw [hy, htb]; exact decode_ref bs W hbs
  have HDD : Hid (∀ W, Calls Tryd.prog 26 #[.string bs] W fun e w' => ∃ u, e = .returned (.tuple #[u, errV de]) ∧ OpV w' u y ∧ Below W.heap.size W w') := by
    intro W; rw [hy, hde]; exact HD bs W hbs
  clear hy htb hde
  obtain ⟨⟨ya, yb⟩, yt, yp, yc, ys⟩ := y
  have C7 := HRD.out w6
  go_wp2_with fail
  refine C7.mono ?_
  rintro e w7 ⟨u7, rfl, hk7, hb7⟩
  obtain ⟨u, rfl, hu⟩ := hk7.now
  simp only at hu
  obtain ⟨pu, nu, cu, rfl⟩ : ∃ pu nu cu, u = .slice pu nu cu := by obtain ⟨_, _, e9, _⟩ := hu; exact ⟨_, _, _, e9⟩
  have HU7 : Hid (DtsAt w7 (.slice pu nu cu) ys) := hu
  have K7 : Hid (Below (w.alloc (.cells #[.int .i64 a, .int .i64 b, .int .i64 t, .string p, .int .i64 c, .slice ps n cs] 53)).heap.size (w.alloc (.cells #[.int .i64 a, .int .i64 b, .int .i64 t, .string p, .int .i64 c, .slice ps n cs] 53)) w7) := bel K6.out hb7
  unfold opV
  simp only
  clear hb7 C7 hk7 hu
  go_upto_if 52 with fail
  go_cut [9] (fun s9 wx => s9 = .int .i64 de ∧ wx = w7.alloc (.cells #[.int .i64 ya, .int .i64 yb, .int .i64 yt, .string yp, .int .i64 yc, .slice pu nu cu] 53))
  case first =>
    cases tb
    · have h9 := HTB.out
      go_wp2_with fail
      go_meet
      case rel => exact ⟨by rw [h9]; rfl, rfl⟩
    · have h9 := HTB.out
      go_wp2_with fail
      go_meet
      case rel => exact ⟨by rw [h9]; rfl, rfl⟩
  case rest =>
  obtain ⟨rfl, hwc⟩ := hcut
  subst hwc
  have K8 : Hid (Below (w.alloc (.cells #[.int .i64 a, .int .i64 b, .int .i64 t, .string p, .int .i64 c, .slice ps n cs] 53)).heap.size (w.alloc (.cells #[.int .i64 a, .int .i64 b, .int .i64 t, .string p, .int .i64 c, .slice ps n cs] 53)) (w7.alloc (.cells #[.int .i64 ya, .int .i64 yb, .int .i64 yt, .string yp, .int .i64 yc, .slice pu nu cu] 53))) := K7.out.alloc K7.out.size _
  have HX7 : Hid (∀ W, Below (w7.alloc (.cells #[.int .i64 ya, .int .i64 yb, .int .i64 yt, .string yp, .int .i64 yc, .slice pu nu cu] 53)).heap.size (w7.alloc (.cells #[.int .i64 ya, .int .i64 yb, .int .i64 yt, .string yp, .int .i64 yc, .slice pu nu cu] 53)) W → Six W w7.heap.size ya yb yt yp yc (.slice pu nu cu) ∧ DtsAt W (.slice pu nu cu) ys) := fun W hb => ⟨(six_new w7 ya yb yt yp yc (.slice pu nu cu) 53).below hb, HU7.out.below (bel_new (Below.refl _ w7) hb)⟩
  have C9 := HDD.out (w7.alloc (.cells #[.int .i64 ya, .int .i64 yb, .int .i64 yt, .string yp, .int .i64 yc, .slice pu nu cu] 53))
  go_wp2_with fail
  refine C9.mono ?_
  rintro e w9 ⟨u9, rfl, hk9, hb9⟩
  obtain ⟨u2, rfl, hu2⟩ := hk9
  simp only at hu2
  obtain ⟨pv, nv, cv, rfl⟩ : ∃ pv nv cv, u2 = .slice pv nv cv := by obtain ⟨_, _, e9, _⟩ := hu2; exact ⟨_, _, _, e9⟩
  have HU9 : Hid (DtsAt w9 (.slice pv nv cv) ys) := hu2
  have HX9 : Hid (Below (w7.alloc (.cells #[.int .i64 ya, .int .i64 yb, .int .i64 yt, .string yp, .int .i64 yc, .slice pu nu cu] 53)).heap.size (w7.alloc (.cells #[.int .i64 ya, .int .i64 yb, .int .i64 yt, .string yp, .int .i64 yc, .slice pu nu cu] 53)) w9) := hb9
  have K9 : Hid (Below (w.alloc (.cells #[.int .i64 a, .int .i64 b, .int .i64 t, .string p, .int .i64 c, .slice ps n cs] 53)).heap.size (w.alloc (.cells #[.int .i64 a, .int .i64 b, .int .i64 t, .string p, .int .i64 c, .slice ps n cs] 53)) w9) := bel K8.out hb9
  unfold opV
  simp only
  clear hb9 C9 hu2
  have K10 : Hid (Below (w.alloc (.cells #[.int .i64 a, .int .i64 b, .int .i64 t, .string p, .int .i64 c, .slice ps n cs] 53)).heap.size (w.alloc (.cells #[.int .i64 a, .int .i64 b, .int .i64 t, .string p, .int .i64 c, .slice ps n cs] 53)) (w9.alloc (.cells #[.int .i64 ya, .int .i64 yb, .int .i64 yt, .string yp, .int .i64 yc, .slice pv nv cv] 53))) := K9.out.alloc K9.out.size _
  have C11 := err_same de (w9.alloc (.cells #[.int .i64 ya, .int .i64 yb, .int .i64 yt, .string yp, .int .i64 yc, .slice pv nv cv] 53)) (HG.out _ K10.out)
  go_wp2_with fail
  refine C11.mono ?_
  rintro e w11 ⟨rfl, hb11⟩
  have K11 : Hid (Below (w.alloc (.cells #[.int .i64 a, .int .i64 b, .int .i64 t, .string p, .int .i64 c, .slice ps n cs] 53)).heap.size (w.alloc (.cells #[.int .i64 a, .int .i64 b, .int .i64 t, .string p, .int .i64 c, .slice ps n cs] 53)) w11) := bel K10.out hb11
  have hb97 : Below (w7.alloc (.cells #[.int .i64 ya, .int .i64 yb, .int .i64 yt, .string yp, .int .i64 yc, .slice pu nu cu] 53)).heap.size (w7.alloc (.cells #[.int .i64 ya, .int .i64 yb, .int .i64 yt, .string yp, .int .i64 yc, .slice pu nu cu] 53)) w11 := bel HX9.out (bel_new (Below.refl _ w9) hb11)
  obtain ⟨⟨d0, d1, d2, d3, d4, d5⟩, hdu⟩ := HX7.out w11 hb97
  obtain ⟨e0, e1, e2, e3, e4, e5⟩ := (six_new w9 ya yb yt yp yc (.slice pv nv cv) 53).below hb11
  have hdv : DtsAt w11 (.slice pv nv cv) ys := HU9.out.below (bel_new (Below.refl _ w9) hb11)
  have C12 := op_same ya yb yt yp yc (.slice pv nv cv) (.slice pu nu cu) ys w11 hdv hdu HYL.out
  clear hb11 C11 hb97 hdu hdv
  go_wp2_with fail
  refine C12.mono ?_
  rintro e w12 ⟨rfl, hb12⟩
  have K12 : Hid (Below (w.alloc (.cells #[.int .i64 a, .int .i64 b, .int .i64 t, .string p, .int .i64 c, .slice ps n cs] 53)).heap.size (w.alloc (.cells #[.int .i64 a, .int .i64 b, .int .i64 t, .string p, .int .i64 c, .slice ps n cs] 53)) w12) := bel K11.out hb12
  clear hb12 C12 d0 d1 d2 d3 d4 d5 e0 e1 e2 e3 e4 e5 HX7 HX9 HU9 HU7 K8 K10
  obtain ⟨f0, hf0⟩ : ∃ f0 : Int, f0 = if 400 < m then 4 else 0 := ⟨_, rfl⟩
  have HF0 : Hid (f0 = if 400 < m then 4 else 0) := hf0
  clear hf0
  go_upto_if 66 with fail
  go_cut [9] (fun s9 wx => s9 = .int .i64 f0 ∧ wx = w12)
  case first =>
    by_cases h4 : 400 < m
    · have h4z : (400 : Int) < m := by omega
      have h9 := HF0.out
      rw [if_pos h4] at h9
      clear h4
      go_wp2_with fail
      go_meet
      case rel => exact ⟨by rw [h9], rfl⟩
    · have h4z : ¬ (400 : Int) < m := by omega
      have h9 := HF0.out
      rw [if_neg h4] at h9
      clear h4
      go_wp2_with fail
      go_meet
      case rel => exact ⟨by rw [h9], rfl⟩
  case rest =>
  obtain ⟨rfl, hwc⟩ := hcut
  subst hwc
  go_wp2_with fail
  go_loopw [9, 20] (fun e i wr => ∃ (k : Nat) (g : Int), k ≤ m ∧ i = .int .i64 k ∧ e = .int .i64 g ∧ Hid ((g ≠ 0 → pe = g) ∧ (g = 0 → pe = firstE (l.drop k))) ∧ Hid (Below (w.alloc (.cells #[.int .i64 a, .int .i64 b, .int .i64 t, .string p, .int .i64 c, .slice ps n cs] 53)).heap.size (w.alloc (.cells #[.int .i64 a, .int .i64 b, .int .i64 t, .string p, .int .i64 c, .slice ps n cs] 53)) wr)) (fun _ i _ => m - (intOf i).toNat)
  case atStart =>
    refine ⟨0, f0, by omega, rfl, rfl, ?_, K12⟩
    have h9 := HF0.out
    have hpe := HPE.out
    unfold packE at hpe
    rw [HML.out] at hpe
    by_cases h4 : 400 < m
    · rw [if_pos h4] at h9 hpe
      exact ⟨fun _ => by rw [h9, hpe], fun e => by rw [h9] at e; exact absurd e (by decide)⟩
    · rw [if_neg h4] at h9 hpe
      exact ⟨fun e => absurd h9 e, fun _ => by rw [hpe]; rfl⟩
  case round =>
    clear K12
    obtain ⟨k, g, hk, rfl, rfl, HR, K13⟩ := hrel
    by_cases hlt : k < m ∧ g = 0
    · obtain ⟨hkm, rfl⟩ := hlt
      have hkz : (k : Int) < m := by omega
      have hkl : k < l.length := by rw [HML.out]; exact hkm
      have hls := HLS.out _ K13.out
      obtain ⟨pl2, cl2, hpe2, hin, _⟩ := hls
      injection hpe2 with q1 q2 q3
      obtain ⟨bo, oo, q4, hc⟩ := hin.some (by intro e; rw [e] at hkl; simp at hkl)
      rw [q4] at q1
      subst q1
      have ha := hc k hkl
      have hxp := HLP.out _ (getO_mem hkl)
      have HST := first_step hkl
      obtain ⟨x, hx⟩ : ∃ x, x = l.getD k oz := ⟨_, rfl⟩
      rw [← hx] at ha hxp HST
      obtain ⟨⟨xa, xb⟩, xt, xp, xc, xs⟩ := x
      obtain ⟨vx, ⟨a0, a1, a2, a3, a4, a5⟩, hdx⟩ := ha
      simp only at a0 a1 a2 a3 a4 a5 hdx hxp
      have C14 := op_ref xa xb xt xp xc vx xs wr hxp hdx
      obtain ⟨g2, hg2⟩ : ∃ g2, g2 = opE ((xa, xb), xt, xp, xc, xs) := ⟨_, rfl⟩
      rw [← hg2] at C14 HST
      have HR2 : Hid ((g2 ≠ 0 → pe = g2) ∧ (g2 = 0 → pe = firstE (l.drop (k + 1)))) := by
        have h9 := HR.out.2 rfl
        rw [HST] at h9
        exact ⟨fun e => by rw [if_pos e] at h9; exact h9, fun e => by rw [if_neg (by simpa using e)] at h9; exact h9⟩
      obtain ⟨pv2, nv2, cv2, rfl⟩ : ∃ pv nv cv, vx = .slice pv nv cv := by obtain ⟨_, _, e9, _⟩ := hdx; exact ⟨_, _, _, e9⟩
      clear hc hx HST hdx hxp hkl hin q2 q3 q4 hg2
      go_wp2_with fail
      refine C14.mono ?_
      rintro e w14 ⟨rfl, hb14⟩
      have K14 : Hid (Below (w.alloc (.cells #[.int .i64 a, .int .i64 b, .int .i64 t, .string p, .int .i64 c, .slice ps n cs] 53)).heap.size (w.alloc (.cells #[.int .i64 a, .int .i64 b, .int .i64 t, .string p, .int .i64 c, .slice ps n cs] 53)) w14) := bel K13.out hb14
      clear hb14 C14 a0 a1 a2 a3 a4 a5
      go_wp2_with fail
      go_roundw
      case rel => exact ⟨k + 1, g2, by omega, by go_num, rfl, HR2, K14⟩
      case measure => simp [intOf]; omega
    · have hge : Hid (g = pe) := by
        unfold Hid
        by_cases h0 : g = 0
        · have hkm : k = m := by omega
          have h9 := HR.out.2 h0
          rw [hkm, List.drop_of_length_le (by rw [HML.out]; exact Nat.le_refl _)] at h9
          rw [h9, h0]; rfl
        · exact (HR.out.1 h0).symm
      go_upto_region 19 with fail
      go_cut [74] from 67 to 74 (fun s74 wx => s74 = .bool false ∧ wr = wx)
      case first =>
        by_cases hkm : k < m
        · have hkz : (k : Int) < m := by omega
          have hgb : (g == 0) = false := by
            cases h9 : (g == 0)
            · rfl
            · exact absurd ⟨hkm, by simpa using h9⟩ hlt
          clear hlt
          go_wp2_with fail
          go_meet
          case rel => exact ⟨rfl, rfl⟩
        · have hkz : ¬ (k : Int) < m := by omega
          clear hlt
          go_wp2_with fail
          go_meet
          case rel => exact ⟨rfl, rfl⟩
      case rest =>
      obtain ⟨rfl, hwc⟩ := hcut
      subst hwc
      obtain rfl : g = pe := hge.out
      clear HR hlt hge HF0 HLS HLP HPE
      go_upto_if 83 with fail
      go_cut [21] from 82 to 85 (fun s21 wx => s21 = .string PK ∧ Hid (Below wr.heap.size wr wx))
      case first =>
        by_cases h0 : g = 0
        · have hqb : (g == 0) = true := by simpa using h0
          have C15 := HRP.out h0 wr K13.out
          clear h0
          go_wp2_with fail
          refine C15.mono ?_
          rintro e w15 ⟨rfl, hb15⟩
          have K15 : Hid (Below wr.heap.size wr w15) := hb15
          clear hb15 C15
          go_wp2_with fail
          go_meet
          case rel => exact ⟨rfl, K15⟩
        · have hqb : (g == 0) = false := by simpa using h0
          have h9 := HNP.out h0
          clear h0
          go_wp2_with fail
          go_meet
          case rel => exact ⟨by rw [h9], Below.refl _ _⟩
      case rest =>
      obtain ⟨rfl, hkc⟩ := hcut
      have K15 : Hid (Below (w.alloc (.cells #[.int .i64 a, .int .i64 b, .int .i64 t, .string p, .int .i64 c, .slice ps n cs] 53)).heap.size (w.alloc (.cells #[.int .i64 a, .int .i64 b, .int .i64 t, .string p, .int .i64 c, .slice ps n cs] 53)) wc) := bel K13.out hkc.out
      clear hkc HRP HNP
      have C16 := HPP.out wc K15.out
      go_wp2_with fail
      refine C16.mono ?_
      rintro e w16 ⟨rfl, hb16⟩
      have K16 : Hid (Below (w.alloc (.cells #[.int .i64 a, .int .i64 b, .int .i64 t, .string p, .int .i64 c, .slice ps n cs] 53)).heap.size (w.alloc (.cells #[.int .i64 a, .int .i64 b, .int .i64 t, .string p, .int .i64 c, .slice ps n cs] 53)) w16) := bel K15.out hb16
      clear hb16 C16
      have C17 := err_same g w16 (HG.out w16 K16.out)
      go_wp2_with fail
      refine C17.mono ?_
      rintro e w17 ⟨rfl, hb17⟩
      have K17 : Hid (Below (w.alloc (.cells #[.int .i64 a, .int .i64 b, .int .i64 t, .string p, .int .i64 c, .slice ps n cs] 53)).heap.size (w.alloc (.cells #[.int .i64 a, .int .i64 b, .int .i64 t, .string p, .int .i64 c, .slice ps n cs] 53)) w17) := bel K16.out hb17
      clear hb17 C17
      obtain ⟨ul, hul⟩ : ∃ ul, ul = (unpB cb.toList).getD [] := ⟨_, rfl⟩
      obtain ⟨ub, hub⟩ : ∃ ub, ub = (unpB cb.toList).isSome := ⟨_, rfl⟩
      obtain ⟨ue, hue⟩ : ∃ ue, ue = unpE cb := ⟨_, rfl⟩
      have HUB : Hid (ue = if ub then 0 else 2) := by unfold Hid; rw [hue, hub]; rfl
      have HUL : Hid (ul.length ≤ 1048576 ∧ ∀ x ∈ ul, x.2.2.2.2.length ≤ 1048576) := by rw [hul]; exact unp_len
      have HRU : Hid (∀ W, Calls Tryd.prog 30 #[.string cb] W fun e w' => ∃ v, e = .returned (.tuple #[v, .bool ub]) ∧ (ub = true → OpsAt w' v ul) ∧ (ub = false → ul = []) ∧ (∃ p n c, v = .slice p n c) ∧ Below W.heap.size W w') := by
        intro W
        refine (unpack_ref cb W hcb).mono ?_
        rintro e w9 ⟨v9, rfl, h1, h2, h3⟩
        refine ⟨v9, by rw [hub], fun hu => ?_, fun hu => ?_, h2, h3⟩
        · rw [hub] at hu
          cases h9 : unpB cb.toList with
          | none => rw [h9] at hu; cases hu
          | some l9 => rw [hul, h9]; exact h1 l9 h9
        · rw [hub] at hu
          cases h9 : unpB cb.toList with
          | none => rw [hul, h9]; rfl
          | some l9 => rw [h9] at hu; cases hu
      have HUU : Hid (∀ W, Calls Tryd.prog 31 #[.string cb] W fun e w' => ∃ v, e = .returned (.tuple #[v, errV ue]) ∧ OpsAt w' v ul ∧ Below W.heap.size W w') := by
        intro W; rw [hul, hue]; exact HU cb W hcb
      clear hul hub hue
      have C18 := HRU.out w17
      go_wp2_with fail
      refine C18.mono ?_
      rintro e w18 ⟨v18, rfl, ho18, hn18, ⟨p18, n18, c18, rfl⟩, hb18⟩
      have K18 : Hid (Below (w.alloc (.cells #[.int .i64 a, .int .i64 b, .int .i64 t, .string p, .int .i64 c, .slice ps n cs] 53)).heap.size (w.alloc (.cells #[.int .i64 a, .int .i64 b, .int .i64 t, .string p, .int .i64 c, .slice ps n cs] 53)) w18) := bel K17.out hb18
      have HO18 : Hid (ub = true → OpsAt w18 (.slice p18 n18 c18) ul) := ho18
      have HN18 : Hid (ub = false → ul = []) := hn18
      clear hb18 C18 ho18 hn18
      go_upto_if 100 with fail
      go_cut [9, 24] (fun s9 s24 wx => s9 = .int .i64 ue ∧ (∃ p9 n9 c9, s24 = .slice p9 n9 c9) ∧ Hid (OpsAt w18 s24 ul) ∧ w18 = wx)
      case first =>
        cases ub
        · have h9 := HUB.out
          have hul := HN18.out rfl
          go_wp2_with fail
          go_meet
          case rel => exact ⟨by rw [h9]; rfl, ⟨_, _, _, rfl⟩, by rw [hul]; exact OpsAt.nil _, rfl⟩
        · have h9 := HUB.out
          have hok := HO18.out rfl
          go_wp2_with fail
          go_meet
          case rel => exact ⟨by rw [h9]; rfl, ⟨_, _, _, rfl⟩, hok, rfl⟩
      case rest =>
      obtain ⟨rfl, ⟨p9, n9, c9, rfl⟩, HOU, hwc⟩ := hcut
      subst hwc
      clear HO18 HN18 HUB
      have C19 := HUU.out w18
      go_wp2_with fail
      refine C19.mono ?_
      rintro e w19 ⟨v19, rfl, ho19, hb19⟩
      have K19 : Hid (Below (w.alloc (.cells #[.int .i64 a, .int .i64 b, .int .i64 t, .string p, .int .i64 c, .slice ps n cs] 53)).heap.size (w.alloc (.cells #[.int .i64 a, .int .i64 b, .int .i64 t, .string p, .int .i64 c, .slice ps n cs] 53)) w19) := bel K18.out hb19
      have HOV : Hid (OpsAt w19 v19 ul) := ho19
      have HOW : Hid (OpsAt w19 (.slice p9 n9 c9) ul) := HOU.out.below hb19
      obtain ⟨p19, n19, c19, rfl⟩ : ∃ p19 n19 c19, v19 = .slice p19 n19 c19 := by obtain ⟨_, _, e9, _⟩ := ho19; exact ⟨_, _, _, e9⟩
      clear hb19 C19 ho19 HOU
      have C20 := err_same ue w19 (HG.out w19 K19.out)
      go_wp2_with fail
      refine C20.mono ?_
      rintro e w20 ⟨rfl, hb20⟩
      have K20 : Hid (Below (w.alloc (.cells #[.int .i64 a, .int .i64 b, .int .i64 t, .string p, .int .i64 c, .slice ps n cs] 53)).heap.size (w.alloc (.cells #[.int .i64 a, .int .i64 b, .int .i64 t, .string p, .int .i64 c, .slice ps n cs] 53)) w20) := bel K19.out hb20
      have C21 := ops_same (.slice p19 n19 c19) (.slice p9 n9 c9) ul w20 (HOV.out.below hb20) (HOW.out.below hb20) HUL.out.1 HUL.out.2
      clear hb20 C20
      go_wp2_with fail
      refine C21.mono ?_
      rintro e w21 ⟨rfl, hb21⟩
      have K21 : Hid (Below (w.alloc (.cells #[.int .i64 a, .int .i64 b, .int .i64 t, .string p, .int .i64 c, .slice ps n cs] 53)).heap.size (w.alloc (.cells #[.int .i64 a, .int .i64 b, .int .i64 t, .string p, .int .i64 c, .slice ps n cs] 53)) w21) := bel K20.out hb21
      clear hb21 C21
      go_wp2_with fail
      go_ret
      exact ⟨rfl, (HS.out _ K21.out).2.2⟩

end Ow
end Go.Proofs.YtcmoajlcmeimiaaDoor
