/- Ways of MarksTell. -/
import Derived.Test.YtcmoajlcmeimiaaDoorWg
namespace Go.Proofs.YtcmoajlcmeimiaaDoor
namespace Wk
set_option linter.unusedVariables false
open Go.ChangeShapes Go.WideShapes Go.ChangeAt Go.RowKit Cm Ka Kb Na Nb Nc Nd Nse Nf Ng Nh Ni Nj Nk Np Nr Ns Wp Wa Wb Wc Wd We Wf Kt Kl
open La (bel bel_drew errV_zero errV_ne own_ge own_grow own_below)
open Wg

set_option maxRecDepth 100000 in
set_option maxHeartbeats 16000000 in
theorem walk_mr_p0 (v : Value) (l : List Mk) (sp : ByteArray) (p1 p2 : Int) (p : ByteArray) (vs : Value) (s : List Dt) (w : World) (HJ : JoinSays) (h : MksAt w v l) (hs : ∀ x ∈ l, x.1.size ≤ maxLen) (hsp : sp.size ≤ maxLen) (hp : p.size ≤ maxLen) (hd : DtsAt w vs s) (hg : ET w) (h0 : marksE l = 0) (hm : markE (sp, (p1, p2)) = 0) (hc : Pm.chk p.toList ≠ 0) (hl0 : l = []) : Calls Tryd.prog 3 #[v, .agg #[.string sp, .int .i64 p1, .int .i64 p2], .string p, vs] w fun e w' => e = .returned (.bool true) ∧ Below w.heap.size w w' := by
  have HB0 : Hid (Below w.heap.size w (w.alloc (.cells #[.string sp, .int .i64 p1, .int .i64 p2] 26))) := (Below.refl _ w).alloc (Nat.le_refl _) _
  have HNC : Hid (∀ wr, Below (w.alloc (.cells #[.string sp, .int .i64 p1, .int .i64 p2] 26)).heap.size (w.alloc (.cells #[.string sp, .int .i64 p1, .int .i64 p2] 26)) wr → wr.cell? ⟨w.heap.size, 0, none⟩ = some (.string sp) ∧ wr.cell? ⟨w.heap.size, 1, none⟩ = some (.int .i64 p1) ∧ wr.cell? ⟨w.heap.size, 2, none⟩ = some (.int .i64 p2)) := fun wr hb => new_cell (x := (sp, (p1, p2))) hb
  have HG : Hid (∀ W, Below w.heap.size w W → ET W) := fun W hb => Kl.ET.below hg hb
  have HRM : Hid (∀ W, Below w.heap.size w W → Calls Tryd.prog 6 #[v] W fun e w' => e = .returned (.int .i64 (marksE l)) ∧ Below W.heap.size W w') := fun W hb => marks_ref v l W (h.below hb) hs
  have HCH : Hid (∀ W, Below w.heap.size w W → Calls Tryd.prog 8 #[v] W fun e w' => e = .returned (errV (marksE l)) ∧ Below W.heap.size W w') := fun W hb => checkM_any v l W (h.below hb) hs
  have HCU : Hid (∀ W, Below w.heap.size w W → Calls Tryd.prog 11 #[v, .agg #[.string sp, .int .i64 p1, .int .i64 p2]] W fun e w' => ∃ v', e = .returned (.tuple #[v', errV (cutE l (sp, (p1, p2)))]) ∧ MksAt w' v' (cutL l (sp, (p1, p2))) ∧ Below W.heap.size W w') := fun W hb => cut_any v l sp p1 p2 W (h.below hb) hs hsp
  have HPL : Hid (∀ W, Below w.heap.size w W → Calls Tryd.prog 13 #[v] W fun e w' => ∃ v', e = .returned (.tuple #[v', errV (marksE l)]) ∧ StsAt w' v' (placesOf l) ∧ Below W.heap.size W w') := fun W hb => places_any v l W (h.below hb) hs
  have HSE : Hid (∀ W, Below w.heap.size w W → Calls Tryd.prog 16 #[v, .string p] W fun e w' => ∃ v', e = .returned (.tuple #[v', errV (seenE l p)]) ∧ DtsAt w' v' (seenL l p) ∧ Below W.heap.size W w') := fun W hb => seen_any v l p W (h.below hb) hs hp
  have HJO : Hid (∀ W, Below w.heap.size w W → Calls Tryd.prog 20 #[v, .string p, vs] W fun e w' => ∃ v', e = .returned (.tuple #[v', errV (joinE l p s)]) ∧ MksAt w' v' (joinL l p s) ∧ Below W.heap.size W w') := fun W hb => HJ v l p vs s W (h.below hb) hs hp (hd.below hb)
  have HRK : Hid (∀ W, Calls Tryd.prog 9 #[.agg #[.string sp, .int .i64 p1, .int .i64 p2]] W fun e w' => e = .returned (.int .i64 (markE (sp, (p1, p2)))) ∧ Below W.heap.size W w') := fun W => mark_ref sp p1 p2 W hsp
  have HRP : Hid (∀ W, Calls Tryd.prog 15 #[.string p] W fun e w' => e = .returned (.int .i64 (Pm.chk p.toList)) ∧ w' = W) := fun W => place_ref p W hp
  obtain ⟨hl40, _, hr⟩ := marksE_zero.1 h0
  have HWI : Hid (∀ W, Below w.heap.size w W → Calls Tryd.prog 10 #[v, .agg #[.string sp, .int .i64 p1, .int .i64 p2]] W fun e w' => ∃ v', e = .returned (.tuple #[v', .int .i64 (withM l (sp, (p1, p2)))]) ∧ MksAt w' v' (withL l (sp, (p1, p2))) ∧ Below W.heap.size W w') := fun W hb => with_any v l sp p1 p2 W (h.below hb) hr hl40
  rw [(cutE_right h0 hm).1, (cutE_right h0 hm).2] at HCU
  have HLW : Hid ((withL l (sp, (p1, p2))).length ≤ 1048576) := by have := withL_len (m := (sp, (p1, p2))) hl40; unfold Hid; omega
  rw [show placesOf l = compTo (names l) l.length by unfold placesOf; rw [if_pos h0]] at HPL
  rw [h0] at HRM HCH HPL
  have hse : seenE l p = Pm.chk p.toList := by unfold seenE; rw [if_neg (by simpa using h0)]
  rw [hse, show seenL l p = [] by unfold seenL; rw [hse, if_neg hc]] at HSE
  have hje : joinE l p s = Pm.chk p.toList := by unfold joinE; rw [if_pos (by rw [hse]; exact hc), hse]
  rw [hje, show joinL l p s = [] by unfold joinL; rw [hje, if_neg hc]] at HJO
  obtain ⟨q, hq⟩ : ∃ q, q = Pm.chk p.toList := ⟨_, rfl⟩
  have hqb : (q == 0) = false := by rw [hq]; simpa using hc
  rw [← hq] at HRP HSE HJO
  rw [hm] at HRK
  obtain ⟨r, hrr⟩ : ∃ r, r = withM l (sp, (p1, p2)) := ⟨_, rfl⟩
  rw [← hrr] at HWI HCU
  have HER : Hid (∀ z W, Below w.heap.size w W → Calls Tryd.prog 7 #[errV z, .int .i64 z] W fun e w' => e = .returned (.bool true) ∧ Below W.heap.size W w') := fun z W hb => err_same z W (HG.out W hb)
  obtain ⟨q0, c0, rfl, hlf, _, hcm, _⟩ := h
  obtain ⟨qs, cs, rfl, _, hnc2, hcm2, _⟩ := hd
  obtain ⟨n, hn⟩ : ∃ n, l.length = n := ⟨_, rfl⟩
  obtain ⟨ns, hns⟩ : ∃ ns, s.length = ns := ⟨_, rfl⟩
  have HL : Hid (l.length = n) := hn
  have HI : Hid (MarksIn w q0 l) := hlf
  rw [hn] at HRM HCH HCU HPL HSE HJO HWI
  rw [hns] at HJO
  rw [hn, hns]
  have hn40 : n ≤ 40 := by omega
  have hn0 : n = 0 := by rw [← hn, hl0]; rfl
  subst hn0
  clear hs hsp hp hg h0 HJ hn hns hlf hcm hnc2 hcm2 hl40 hr hm hc hse hje hq hl0 hrr
  obtain ⟨ea, hea⟩ : ∃ ea, ea = errV 0 := ⟨_, rfl⟩
  rw [← hea] at HCH HPL
  have HEA := fun W hb => HER.out 0 W hb
  rw [← hea] at HEA
  obtain ⟨eb, heb⟩ : ∃ eb, eb = errV r := ⟨_, rfl⟩
  rw [← heb] at HCU
  have HEB := fun W hb => HER.out r W hb
  rw [← heb] at HEB
  obtain ⟨ec, hec⟩ : ∃ ec, ec = errV q := ⟨_, rfl⟩
  rw [← hec] at HSE
  have HEC := fun W hb => HER.out q W hb
  rw [← hec] at HEC
  obtain ⟨ed, hed⟩ : ∃ ed, ed = errV q := ⟨_, rfl⟩
  rw [← hed] at HJO
  have HED := fun W hb => HER.out q W hb
  rw [← hed] at HED
  have HEA2 : Hid (∀ W, Below w.heap.size w W → _) := HEA
  have HEB2 : Hid (∀ W, Below w.heap.size w W → _) := HEB
  have HEC2 : Hid (∀ W, Below w.heap.size w W → _) := HEC
  have HED2 : Hid (∀ W, Below w.heap.size w W → _) := HED
  clear HEA HEB HEC HED HER hea heb hec hed HG
  go_enter Tryd.func3, Tryd.ntmps3
  have C1 := HRM.out _ HB0.out
  go_wp2_with fail
  refine C1.mono ?_
  rintro e w1 ⟨rfl, hb1⟩
  have K1 : Hid (Below w.heap.size w w1) := bel HB0.out hb1
  obtain ⟨g0, g1, g2⟩ := HNC.out w1 hb1
  clear hb1 C1 HNC HB0
  have C2 := HCH.out w1 K1.out
  go_wp2_with fail
  refine C2.mono ?_
  rintro e w2 ⟨rfl, hb2⟩
  have K2 : Hid (Below w.heap.size w w2) := bel K1.out hb2
  have g0' := keep_cell hb2 g0
  have g1' := keep_cell hb2 g1
  have g2' := keep_cell hb2 g2
  clear hb2 C2
  clear g0 g1 g2
  have g0 := g0'
  have g1 := g1'
  have g2 := g2'
  clear g0' g1' g2'
  have C3 := HEA2.out w2 K2.out
  go_wp2_with fail
  refine C3.mono ?_
  rintro e w3 ⟨rfl, hb3⟩
  have K3 : Hid (Below w.heap.size w w3) := bel K2.out hb3
  have g0' := keep_cell hb3 g0
  have g1' := keep_cell hb3 g1
  have g2' := keep_cell hb3 g2
  clear hb3 C3
  clear g0 g1 g2
  have g0 := g0'
  have g1 := g1'
  have g2 := g2'
  clear g0' g1' g2'
  have C4 := HRK.out w3
  go_wp2_with fail
  refine C4.mono ?_
  rintro e w4 ⟨rfl, hb4⟩
  have K4 : Hid (Below w.heap.size w w4) := bel K3.out hb4
  have g0' := keep_cell hb4 g0
  have g1' := keep_cell hb4 g1
  have g2' := keep_cell hb4 g2
  clear hb4 C4
  clear g0 g1 g2
  have g0 := g0'
  have g1 := g1'
  have g2 := g2'
  clear g0' g1' g2'
  have C5 := HWI.out w4 K4.out
  go_wp2_with fail
  refine C5.mono ?_
  rintro e w5 ⟨v5, rfl, hk5, hb5⟩
  have K5 : Hid (Below w.heap.size w w5) := bel K4.out hb5
  have g0' := keep_cell hb5 g0
  have g1' := keep_cell hb5 g1
  have g2' := keep_cell hb5 g2
  have M5 : Hid (MksAt w5 v5 (withL l (sp, (p1, p2)))) := hk5
  clear hk5
  clear hb5 C5
  clear g0 g1 g2
  have g0 := g0'
  have g1 := g1'
  have g2 := g2'
  clear g0' g1' g2'
  have C6 := HCU.out w5 K5.out
  go_wp2_with fail
  refine C6.mono ?_
  rintro e w6 ⟨v6, rfl, hk6, hb6⟩
  have K6 : Hid (Below w.heap.size w w6) := bel K5.out hb6
  have M5n : Hid (MksAt w6 v5 (withL l (sp, (p1, p2)))) := M5.out.below hb6
  clear M5
  have M5 := M5n
  clear M5n
  have M6 : Hid (MksAt w6 v6 (withL l (sp, (p1, p2)))) := hk6
  clear hk6 g0 g1 g2
  clear hb6 C6
  have C7 := HEB2.out w6 K6.out
  go_wp2_with fail
  refine C7.mono ?_
  rintro e w7 ⟨rfl, hb7⟩
  have K7 : Hid (Below w.heap.size w w7) := bel K6.out hb7
  have M5n : Hid (MksAt w7 v5 (withL l (sp, (p1, p2)))) := M5.out.below hb7
  clear M5
  have M5 := M5n
  clear M5n
  have M6n : Hid (MksAt w7 v6 (withL l (sp, (p1, p2)))) := M6.out.below hb7
  clear M6
  have M6 := M6n
  clear M6n
  clear hb7 C7
  have C8 := marks_same v6 v5 (withL l (sp, (p1, p2))) w7 M6.out M5.out HLW.out
  go_wp2_with fail
  refine C8.mono ?_
  rintro e w8 ⟨rfl, hb8⟩
  have K8 : Hid (Below w.heap.size w w8) := bel K7.out hb8
  clear M5 M6
  clear hb8 C8
  obtain ⟨iS, hiS, hzS0, hzS1, hzS2⟩ := info_parts infoStr
  obtain ⟨iD, hiD, hzD0, hzD1, hzD2⟩ := info_parts infoDot
  go_wp2_with fail
  go_loopw [17, 18] (fun d i wr => ∃ k : Nat, k ≤ 0 ∧ i = .int .i64 k ∧ Hid (wr.ownsRow w.heap.size 9 1 d (compTo (names l) k).length (txt (compTo (names l) k))) ∧ Hid (Below w.heap.size w wr)) (fun _ i _ => 0 - (intOf i).toNat)
  case atStart => exact ⟨0, by omega, rfl, World.ownsRow_nil _ _ _ _, K8⟩
  case round =>
    clear K8
    obtain ⟨k, hk, rfl, HO, K9⟩ := hrel
    obtain rfl : k = 0 := by omega
    have T9 : Hid (StsAt wr u17 (compTo (names l) l.length)) := by unfold Hid; rw [HL.out]; exact own_txt HO.out
    have HLP : Hid ((compTo (names l) l.length).length ≤ 1048576) := by have := compTo_len l l.length; have := HL.out; unfold Hid; omega
    clear HO
    have C10 := HPL.out wr K9.out
    go_wp2_with fail
    refine C10.mono ?_
    rintro e w10 ⟨v10, rfl, hk10, hb10⟩
    have K10 : Hid (Below w.heap.size w w10) := bel K9.out hb10
    have T9n : Hid (StsAt w10 u17 (compTo (names l) l.length)) := T9.out.below hb10
    clear T9
    have T9 := T9n
    clear T9n
    have T10 : Hid (StsAt w10 v10 (compTo (names l) l.length)) := by unfold Hid; rw [HL.out]; exact hk10
    clear hk10
    clear hb10 C10
    have C11 := HEA2.out w10 K10.out
    go_wp2_with fail
    refine C11.mono ?_
    rintro e w11 ⟨rfl, hb11⟩
    have K11 : Hid (Below w.heap.size w w11) := bel K10.out hb11
    have T9n : Hid (StsAt w11 u17 (compTo (names l) l.length)) := T9.out.below hb11
    clear T9
    have T9 := T9n
    clear T9n
    have T10n : Hid (StsAt w11 v10 (compTo (names l) l.length)) := T10.out.below hb11
    clear T10
    have T10 := T10n
    clear T10n
    clear hb11 C11
    have C12 := texts_same v10 u17 (compTo (names l) l.length) w11 T10.out T9.out HLP.out
    go_wp2_with fail
    refine C12.mono ?_
    rintro e w12 ⟨rfl, hb12⟩
    have K12 : Hid (Below w.heap.size w w12) := bel K11.out hb12
    clear T9 T10
    clear hb12 C12
    have C13 := HRP.out w12
    go_wp2_with fail
    refine C13.mono ?_
    rintro e w13 ⟨rfl, hw⟩
    have hw2 := hw.symm; subst hw2; clear hw C13
    go_wp2_with fail
    go_loopw [22, 23] (fun d i wr2 => d = .slice none 0 0 ∧ i = .int .i64 0 ∧ Hid (Below w.heap.size w wr2)) (fun _ _ _ => 0)
    case atStart => exact ⟨rfl, rfl, K12⟩
    case round =>
      clear K12
      obtain ⟨rfl, rfl, K14⟩ := hrel
      have D14 : Hid (DtsAt _ (.slice none 0 0) []) := DtsAt.nil wr
      have C15 := HSE.out wr K14.out
      go_wp2_with fail
      refine C15.mono ?_
      rintro e w15 ⟨v15, rfl, hk15, hb15⟩
      have K15 : Hid (Below w.heap.size w w15) := bel K14.out hb15
      have D14n : Hid (DtsAt w15 (.slice none 0 0) []) := D14.out.below hb15
      clear D14
      have D14 := D14n
      clear D14n
      have D15 : Hid (DtsAt w15 v15 []) := hk15
      clear hk15
      clear hb15 C15
      have C16 := HEC2.out w15 K15.out
      go_wp2_with fail
      refine C16.mono ?_
      rintro e w16 ⟨rfl, hb16⟩
      have K16 : Hid (Below w.heap.size w w16) := bel K15.out hb16
      have D14n : Hid (DtsAt w16 (.slice none 0 0) []) := D14.out.below hb16
      clear D14
      have D14 := D14n
      clear D14n
      have D15n : Hid (DtsAt w16 v15 []) := D15.out.below hb16
      clear D15
      have D15 := D15n
      clear D15n
      clear hb16 C16
      have C17 := dots_same v15 (.slice none 0 0) [] w16 D15.out D14.out (by simp)
      go_wp2_with fail
      refine C17.mono ?_
      rintro e w17 ⟨rfl, hb17⟩
      have K17 : Hid (Below w.heap.size w w17) := bel K16.out hb17
      clear D14 D15
      clear hb17 C17
      have M19 : Hid (MksAt w17 (.slice none 0 0) []) := MksAt.nil _
      have C20 := HJO.out w17 K17.out
      go_wp2_with fail
      refine C20.mono ?_
      rintro e w20 ⟨v20, rfl, hk20, hb20⟩
      have K20 : Hid (Below w.heap.size w w20) := bel K17.out hb20
      have M19n : Hid (MksAt w20 (.slice none 0 0) []) := M19.out.below hb20
      clear M19
      have M19 := M19n
      clear M19n
      have M20 : Hid (MksAt w20 v20 []) := hk20
      clear hk20
      clear hb20 C20
      have C21 := HED2.out w20 K20.out
      go_wp2_with fail
      refine C21.mono ?_
      rintro e w21 ⟨rfl, hb21⟩
      have K21 : Hid (Below w.heap.size w w21) := bel K20.out hb21
      have M19n : Hid (MksAt w21 (.slice none 0 0) []) := M19.out.below hb21
      clear M19
      have M19 := M19n
      clear M19n
      have M20n : Hid (MksAt w21 v20 []) := M20.out.below hb21
      clear M20
      have M20 := M20n
      clear M20n
      clear hb21 C21
      have C22 := marks_same v20 (.slice none 0 0) [] w21 M20.out M19.out (by simp)
      go_wp2_with fail
      refine C22.mono ?_
      rintro e w22 ⟨rfl, hb22⟩
      have K22 : Hid (Below w.heap.size w w22) := bel K21.out hb22
      clear M19 M20
      clear hb22 C22
      go_wp2_with fail
      go_ret
      exact ⟨rfl, K22.out⟩

set_option maxRecDepth 100000 in
set_option maxHeartbeats 16000000 in
theorem walk_mr_p1 (v : Value) (l : List Mk) (sp : ByteArray) (p1 p2 : Int) (p : ByteArray) (vs : Value) (s : List Dt) (w : World) (HJ : JoinSays) (h : MksAt w v l) (hs : ∀ x ∈ l, x.1.size ≤ maxLen) (hsp : sp.size ≤ maxLen) (hp : p.size ≤ maxLen) (hd : DtsAt w vs s) (hg : ET w) (h0 : marksE l = 0) (hm : markE (sp, (p1, p2)) = 0) (hc : Pm.chk p.toList ≠ 0) (hl0 : l ≠ []) : Calls Tryd.prog 3 #[v, .agg #[.string sp, .int .i64 p1, .int .i64 p2], .string p, vs] w fun e w' => e = .returned (.bool true) ∧ Below w.heap.size w w' := by
  have HB0 : Hid (Below w.heap.size w (w.alloc (.cells #[.string sp, .int .i64 p1, .int .i64 p2] 26))) := (Below.refl _ w).alloc (Nat.le_refl _) _
  have HNC : Hid (∀ wr, Below (w.alloc (.cells #[.string sp, .int .i64 p1, .int .i64 p2] 26)).heap.size (w.alloc (.cells #[.string sp, .int .i64 p1, .int .i64 p2] 26)) wr → wr.cell? ⟨w.heap.size, 0, none⟩ = some (.string sp) ∧ wr.cell? ⟨w.heap.size, 1, none⟩ = some (.int .i64 p1) ∧ wr.cell? ⟨w.heap.size, 2, none⟩ = some (.int .i64 p2)) := fun wr hb => new_cell (x := (sp, (p1, p2))) hb
  have HG : Hid (∀ W, Below w.heap.size w W → ET W) := fun W hb => Kl.ET.below hg hb
  have HRM : Hid (∀ W, Below w.heap.size w W → Calls Tryd.prog 6 #[v] W fun e w' => e = .returned (.int .i64 (marksE l)) ∧ Below W.heap.size W w') := fun W hb => marks_ref v l W (h.below hb) hs
  have HCH : Hid (∀ W, Below w.heap.size w W → Calls Tryd.prog 8 #[v] W fun e w' => e = .returned (errV (marksE l)) ∧ Below W.heap.size W w') := fun W hb => checkM_any v l W (h.below hb) hs
  have HCU : Hid (∀ W, Below w.heap.size w W → Calls Tryd.prog 11 #[v, .agg #[.string sp, .int .i64 p1, .int .i64 p2]] W fun e w' => ∃ v', e = .returned (.tuple #[v', errV (cutE l (sp, (p1, p2)))]) ∧ MksAt w' v' (cutL l (sp, (p1, p2))) ∧ Below W.heap.size W w') := fun W hb => cut_any v l sp p1 p2 W (h.below hb) hs hsp
  have HPL : Hid (∀ W, Below w.heap.size w W → Calls Tryd.prog 13 #[v] W fun e w' => ∃ v', e = .returned (.tuple #[v', errV (marksE l)]) ∧ StsAt w' v' (placesOf l) ∧ Below W.heap.size W w') := fun W hb => places_any v l W (h.below hb) hs
  have HSE : Hid (∀ W, Below w.heap.size w W → Calls Tryd.prog 16 #[v, .string p] W fun e w' => ∃ v', e = .returned (.tuple #[v', errV (seenE l p)]) ∧ DtsAt w' v' (seenL l p) ∧ Below W.heap.size W w') := fun W hb => seen_any v l p W (h.below hb) hs hp
  have HJO : Hid (∀ W, Below w.heap.size w W → Calls Tryd.prog 20 #[v, .string p, vs] W fun e w' => ∃ v', e = .returned (.tuple #[v', errV (joinE l p s)]) ∧ MksAt w' v' (joinL l p s) ∧ Below W.heap.size W w') := fun W hb => HJ v l p vs s W (h.below hb) hs hp (hd.below hb)
  have HRK : Hid (∀ W, Calls Tryd.prog 9 #[.agg #[.string sp, .int .i64 p1, .int .i64 p2]] W fun e w' => e = .returned (.int .i64 (markE (sp, (p1, p2)))) ∧ Below W.heap.size W w') := fun W => mark_ref sp p1 p2 W hsp
  have HRP : Hid (∀ W, Calls Tryd.prog 15 #[.string p] W fun e w' => e = .returned (.int .i64 (Pm.chk p.toList)) ∧ w' = W) := fun W => place_ref p W hp
  obtain ⟨hl40, _, hr⟩ := marksE_zero.1 h0
  have HWI : Hid (∀ W, Below w.heap.size w W → Calls Tryd.prog 10 #[v, .agg #[.string sp, .int .i64 p1, .int .i64 p2]] W fun e w' => ∃ v', e = .returned (.tuple #[v', .int .i64 (withM l (sp, (p1, p2)))]) ∧ MksAt w' v' (withL l (sp, (p1, p2))) ∧ Below W.heap.size W w') := fun W hb => with_any v l sp p1 p2 W (h.below hb) hr hl40
  rw [(cutE_right h0 hm).1, (cutE_right h0 hm).2] at HCU
  have HLW : Hid ((withL l (sp, (p1, p2))).length ≤ 1048576) := by have := withL_len (m := (sp, (p1, p2))) hl40; unfold Hid; omega
  rw [show placesOf l = compTo (names l) l.length by unfold placesOf; rw [if_pos h0]] at HPL
  rw [h0] at HRM HCH HPL
  have hse : seenE l p = Pm.chk p.toList := by unfold seenE; rw [if_neg (by simpa using h0)]
  rw [hse, show seenL l p = [] by unfold seenL; rw [hse, if_neg hc]] at HSE
  have hje : joinE l p s = Pm.chk p.toList := by unfold joinE; rw [if_pos (by rw [hse]; exact hc), hse]
  rw [hje, show joinL l p s = [] by unfold joinL; rw [hje, if_neg hc]] at HJO
  obtain ⟨q, hq⟩ : ∃ q, q = Pm.chk p.toList := ⟨_, rfl⟩
  have hqb : (q == 0) = false := by rw [hq]; simpa using hc
  rw [← hq] at HRP HSE HJO
  rw [hm] at HRK
  obtain ⟨r, hrr⟩ : ∃ r, r = withM l (sp, (p1, p2)) := ⟨_, rfl⟩
  rw [← hrr] at HWI HCU
  have HER : Hid (∀ z W, Below w.heap.size w W → Calls Tryd.prog 7 #[errV z, .int .i64 z] W fun e w' => e = .returned (.bool true) ∧ Below W.heap.size W w') := fun z W hb => err_same z W (HG.out W hb)
  obtain ⟨q0, c0, rfl, hlf, _, hcm, _⟩ := h
  obtain ⟨qs, cs, rfl, _, hnc2, hcm2, _⟩ := hd
  obtain ⟨n, hn⟩ : ∃ n, l.length = n := ⟨_, rfl⟩
  obtain ⟨ns, hns⟩ : ∃ ns, s.length = ns := ⟨_, rfl⟩
  have HL : Hid (l.length = n) := hn
  have HI : Hid (MarksIn w q0 l) := hlf
  rw [hn] at HRM HCH HCU HPL HSE HJO HWI
  rw [hns] at HJO
  rw [hn, hns]
  have hn40 : n ≤ 40 := by omega
  have hn0 : 0 < n := by rw [← hn]; exact List.length_pos_iff.2 hl0
  have hn0z : (0 : Int) < n := by omega
  clear hs hsp hp hg h0 HJ hn hns hlf hcm hnc2 hcm2 hl40 hr hm hc hse hje hq hl0 hrr
  obtain ⟨ea, hea⟩ : ∃ ea, ea = errV 0 := ⟨_, rfl⟩
  rw [← hea] at HCH HPL
  have HEA := fun W hb => HER.out 0 W hb
  rw [← hea] at HEA
  obtain ⟨eb, heb⟩ : ∃ eb, eb = errV r := ⟨_, rfl⟩
  rw [← heb] at HCU
  have HEB := fun W hb => HER.out r W hb
  rw [← heb] at HEB
  obtain ⟨ec, hec⟩ : ∃ ec, ec = errV q := ⟨_, rfl⟩
  rw [← hec] at HSE
  have HEC := fun W hb => HER.out q W hb
  rw [← hec] at HEC
  obtain ⟨ed, hed⟩ : ∃ ed, ed = errV q := ⟨_, rfl⟩
  rw [← hed] at HJO
  have HED := fun W hb => HER.out q W hb
  rw [← hed] at HED
  have HEA2 : Hid (∀ W, Below w.heap.size w W → _) := HEA
  have HEB2 : Hid (∀ W, Below w.heap.size w W → _) := HEB
  have HEC2 : Hid (∀ W, Below w.heap.size w W → _) := HEC
  have HED2 : Hid (∀ W, Below w.heap.size w W → _) := HED
  clear HEA HEB HEC HED HER hea heb hec hed HG
  go_enter Tryd.func3, Tryd.ntmps3
  have C1 := HRM.out _ HB0.out
  go_wp2_with fail
  refine C1.mono ?_
  rintro e w1 ⟨rfl, hb1⟩
  have K1 : Hid (Below w.heap.size w w1) := bel HB0.out hb1
  obtain ⟨g0, g1, g2⟩ := HNC.out w1 hb1
  clear hb1 C1 HNC HB0
  have C2 := HCH.out w1 K1.out
  go_wp2_with fail
  refine C2.mono ?_
  rintro e w2 ⟨rfl, hb2⟩
  have K2 : Hid (Below w.heap.size w w2) := bel K1.out hb2
  have g0' := keep_cell hb2 g0
  have g1' := keep_cell hb2 g1
  have g2' := keep_cell hb2 g2
  clear hb2 C2
  clear g0 g1 g2
  have g0 := g0'
  have g1 := g1'
  have g2 := g2'
  clear g0' g1' g2'
  have C3 := HEA2.out w2 K2.out
  go_wp2_with fail
  refine C3.mono ?_
  rintro e w3 ⟨rfl, hb3⟩
  have K3 : Hid (Below w.heap.size w w3) := bel K2.out hb3
  have g0' := keep_cell hb3 g0
  have g1' := keep_cell hb3 g1
  have g2' := keep_cell hb3 g2
  clear hb3 C3
  clear g0 g1 g2
  have g0 := g0'
  have g1 := g1'
  have g2 := g2'
  clear g0' g1' g2'
  have C4 := HRK.out w3
  go_wp2_with fail
  refine C4.mono ?_
  rintro e w4 ⟨rfl, hb4⟩
  have K4 : Hid (Below w.heap.size w w4) := bel K3.out hb4
  have g0' := keep_cell hb4 g0
  have g1' := keep_cell hb4 g1
  have g2' := keep_cell hb4 g2
  clear hb4 C4
  clear g0 g1 g2
  have g0 := g0'
  have g1 := g1'
  have g2 := g2'
  clear g0' g1' g2'
  have C5 := HWI.out w4 K4.out
  go_wp2_with fail
  refine C5.mono ?_
  rintro e w5 ⟨v5, rfl, hk5, hb5⟩
  have K5 : Hid (Below w.heap.size w w5) := bel K4.out hb5
  have g0' := keep_cell hb5 g0
  have g1' := keep_cell hb5 g1
  have g2' := keep_cell hb5 g2
  have M5 : Hid (MksAt w5 v5 (withL l (sp, (p1, p2)))) := hk5
  clear hk5
  clear hb5 C5
  clear g0 g1 g2
  have g0 := g0'
  have g1 := g1'
  have g2 := g2'
  clear g0' g1' g2'
  have C6 := HCU.out w5 K5.out
  go_wp2_with fail
  refine C6.mono ?_
  rintro e w6 ⟨v6, rfl, hk6, hb6⟩
  have K6 : Hid (Below w.heap.size w w6) := bel K5.out hb6
  have M5n : Hid (MksAt w6 v5 (withL l (sp, (p1, p2)))) := M5.out.below hb6
  clear M5
  have M5 := M5n
  clear M5n
  have M6 : Hid (MksAt w6 v6 (withL l (sp, (p1, p2)))) := hk6
  clear hk6 g0 g1 g2
  clear hb6 C6
  have C7 := HEB2.out w6 K6.out
  go_wp2_with fail
  refine C7.mono ?_
  rintro e w7 ⟨rfl, hb7⟩
  have K7 : Hid (Below w.heap.size w w7) := bel K6.out hb7
  have M5n : Hid (MksAt w7 v5 (withL l (sp, (p1, p2)))) := M5.out.below hb7
  clear M5
  have M5 := M5n
  clear M5n
  have M6n : Hid (MksAt w7 v6 (withL l (sp, (p1, p2)))) := M6.out.below hb7
  clear M6
  have M6 := M6n
  clear M6n
  clear hb7 C7
  have C8 := marks_same v6 v5 (withL l (sp, (p1, p2))) w7 M6.out M5.out HLW.out
  go_wp2_with fail
  refine C8.mono ?_
  rintro e w8 ⟨rfl, hb8⟩
  have K8 : Hid (Below w.heap.size w w8) := bel K7.out hb8
  clear M5 M6
  clear hb8 C8
  obtain ⟨iS, hiS, hzS0, hzS1, hzS2⟩ := info_parts infoStr
  obtain ⟨iD, hiD, hzD0, hzD1, hzD2⟩ := info_parts infoDot
  go_wp2_with fail
  go_loopw [17, 18] (fun d i wr => ∃ k : Nat, k ≤ n ∧ i = .int .i64 k ∧ Hid (wr.ownsRow w.heap.size 9 1 d (compTo (names l) k).length (txt (compTo (names l) k))) ∧ Hid (Below w.heap.size w wr)) (fun _ i _ => n - (intOf i).toNat)
  case atStart => exact ⟨0, by omega, rfl, World.ownsRow_nil _ _ _ _, K8⟩
  case round =>
    clear K8
    obtain ⟨k, hk, rfl, HO, K9⟩ := hrel
    by_cases hlt : k < n
    · have hltz : (k : Int) < n := by omega
      obtain ⟨b, o, rfl, hcc⟩ := HI.out.some (by intro e; have := HL.out; rw [e] at this; simp at this; omega)
      have hkl : k < l.length := by rw [HL.out]; exact hlt
      have ha := ((hcc k hkl).below K9.out (hcc k hkl).lt).1
      have HP : Hid (∀ j, j + 1 = k → wr.cell? ⟨b, o + j * 3, none⟩ = some (.string ((names l).getD j noS))) := fun j hj => by
        have := ((hcc j (by omega)).below K9.out (hcc j (by omega)).lt).1
        rw [names_get (by omega)]; exact this
      have hnk : (l.getD k none1).1 = (names l).getD k noS := (names_get hkl).symm
      rw [hnk] at ha
      have hdl := compTo_len l k
      have hX : ∃ X, X = compTo (names l) k := ⟨_, rfl⟩
      obtain ⟨X, hX⟩ := hX
      have HXX : Hid (X = compTo (names l) k) := hX
      rw [← hX] at HO hdl
      have hm1 : X.length + 1 ≤ maxLen := by unfold maxLen; omega
      have hm2 : (X.length + 1) * 16 ≤ 140737488355328 := by omega
      clear hcc hX hnk
      have APP : Hid True := trivial
      by_cases hk0 : k = 0
      · subst hk0
        simp only [Nat.zero_mul, Nat.add_zero] at ha
        have HT : Hid (compTo (names l) (0 + 1) = X ++ [(names l).getD 0 noS]) := by unfold Hid; rw [compTo, if_pos (Or.inl rfl), HXX.out]
        obtain ⟨y, hy⟩ : ∃ y, y = (names l).getD 0 noS := ⟨_, rfl⟩
        rw [← hy] at ha HT
        clear hy HP
        go_wp2_with fail
        go_quiet (fail)
        generalize hwq : World.drewN _ _ = wq
        have KQ : Hid (Below w.heap.size w wq) := by rw [← hwq]; exact bel_drew K9.out _
        have HOQ : Hid (wq.ownsRow w.heap.size 9 1 u17 X.length (txt X)) := by rw [← hwq]; exact HO.out
        have hb0 : wq.cell? ⟨b, o, none⟩ = some (.string y) := by rw [← hwq]; exact ha
        have HS3 : Hid (w.heap.size ≤ (wq.alloc (.cells #[.string y] 9)).heap.size) := Nat.le_trans KQ.out.size (alloc_le _ _)
        clear hwq ha HO K9
        go_wp2_with (at_builtin; refine wpList_append_own_at _ rfl (.tmp 86) (.tmp 92) 39 rfl w.heap.size 9 iS (.string ⟨#[]⟩) 1 16 Tryd.underlying39 hiS hzS0 hzS1 hzS2 rfl (by decide) u17 X.length (txt X) rfl (HOQ.out.alloc _) ⟨wq.heap.size, 0, none⟩ 1 1 (txt [y]) rfl rfl (cell_one_new _ _ _) (txt_one _) hm1 hm2 HS3.out ?_; intro v' w3' hown' hgrow _ hat; have HB3 : Hid (Below w.heap.size w w3') := own_grow HOQ.out (KQ.out.alloc KQ.out.size _) hgrow HS3.out; have HW4 : Hid (w3'.ownsRow w.heap.size 9 1 v' (X ++ [y]).length (txt (X ++ [y]))) := own_appS rfl rfl hown'; clear hown' hgrow hat)
        rw [← HT.out] at HW4
        go_roundw
        case rel => exact ⟨0 + 1, by omega, by go_num, HW4, HB3⟩
        case measure => simp [intOf]; omega
      · obtain ⟨m, hm⟩ : ∃ m, m + 1 = k := ⟨k - 1, by omega⟩
        have hp0 := HP.out m hm
        have hkb : ((k : Int) == 0) = false := by rw [beq_eq_false_iff_ne]; omega
        have hkn : (k == 0) = false := by rw [beq_eq_false_iff_ne]; omega
        have hkd : decide (k = 0) = false := decide_eq_false hk0
        have hkm : IntKind.i64.wrap ((k : Int) - 1) = (m : Int) := by rw [show (k : Int) - 1 = (m : Int) by omega]; exact wrap_in (by omega) (by omega)
        have hmz : (m : Int) < n := by omega
        have HM1 : Hid (k - 1 = m) := by unfold Hid; omega
        by_cases hxy : (names l).getD k noS = (names l).getD m noS
        · have HT : Hid (compTo (names l) (k + 1) = X) := by unfold Hid; rw [compTo_same (by omega) (by rw [HM1.out]; exact hxy), HXX.out]
          rw [hxy] at ha
          obtain ⟨y, hy⟩ : ∃ y, y = (names l).getD m noS := ⟨_, rfl⟩
          rw [← hy] at ha hp0
          rw [← HT.out] at HO
          clear hy HP hxy
          go_wp2_with fail
          go_quiet (fail)
          generalize hwq : World.drewN _ _ = wq
          have KQ : Hid (Below w.heap.size w wq) := by rw [← hwq]; exact bel_drew K9.out _
          have HOQ : Hid (wq.ownsRow w.heap.size 9 1 u17 (compTo (names l) (k + 1)).length (txt (compTo (names l) (k + 1)))) := by rw [← hwq]; exact HO.out
          clear hwq ha HO K9
          go_wp2_with fail
          go_roundw
          case rel => exact ⟨k + 1, by omega, by go_num, HOQ, KQ⟩
          case measure => simp [intOf]; omega
        · have HT : Hid (compTo (names l) (k + 1) = X ++ [(names l).getD k noS]) := by unfold Hid; rw [compTo_next (by rw [HM1.out]; exact hxy), HXX.out]
          obtain ⟨y, hy⟩ : ∃ y, y = (names l).getD k noS := ⟨_, rfl⟩
          obtain ⟨z, hz⟩ : ∃ z, z = (names l).getD m noS := ⟨_, rfl⟩
          rw [← hy] at ha HT hxy
          rw [← hz] at hp0 hxy
          have hne : ¬ y.toList = z.toList := fun e => hxy (Bm.bytes_inj e)
          have hnb : (y.toList == z.toList) = false := by simpa using hne
          clear hy hz HP hxy hne
          go_wp2_with fail
          go_quiet (fail)
          generalize hwq : World.drewN _ _ = wq
          have KQ : Hid (Below w.heap.size w wq) := by rw [← hwq]; exact bel_drew K9.out _
          have HOQ : Hid (wq.ownsRow w.heap.size 9 1 u17 X.length (txt X)) := by rw [← hwq]; exact HO.out
          have hb0 : wq.cell? ⟨b, o + k * 3, none⟩ = some (.string y) := by rw [← hwq]; exact ha
          have HS3 : Hid (w.heap.size ≤ (wq.alloc (.cells #[.string y] 9)).heap.size) := Nat.le_trans KQ.out.size (alloc_le _ _)
          clear hwq ha hp0 HO K9
          go_wp2_with (at_builtin; refine wpList_append_own_at _ rfl (.tmp 86) (.tmp 92) 39 rfl w.heap.size 9 iS (.string ⟨#[]⟩) 1 16 Tryd.underlying39 hiS hzS0 hzS1 hzS2 rfl (by decide) u17 X.length (txt X) rfl (HOQ.out.alloc _) ⟨wq.heap.size, 0, none⟩ 1 1 (txt [y]) rfl rfl (cell_one_new _ _ _) (txt_one _) hm1 hm2 HS3.out ?_; intro v' w3' hown' hgrow _ hat; have HB3 : Hid (Below w.heap.size w w3') := own_grow HOQ.out (KQ.out.alloc KQ.out.size _) hgrow HS3.out; have HW4 : Hid (w3'.ownsRow w.heap.size 9 1 v' (X ++ [y]).length (txt (X ++ [y]))) := own_appS rfl rfl hown'; clear hown' hgrow hat)
          rw [← HT.out] at HW4
          go_roundw
          case rel => exact ⟨k + 1, by omega, by go_num, HW4, HB3⟩
          case measure => simp [intOf]; omega
    · obtain rfl : k = n := by omega
      have T9 : Hid (StsAt wr u17 (compTo (names l) l.length)) := by unfold Hid; rw [HL.out]; exact own_txt HO.out
      have HLP : Hid ((compTo (names l) l.length).length ≤ 1048576) := by have := compTo_len l l.length; have := HL.out; unfold Hid; omega
      clear HO
      have C10 := HPL.out wr K9.out
      go_wp2_with fail
      refine C10.mono ?_
      rintro e w10 ⟨v10, rfl, hk10, hb10⟩
      have K10 : Hid (Below w.heap.size w w10) := bel K9.out hb10
      have T9n : Hid (StsAt w10 u17 (compTo (names l) l.length)) := T9.out.below hb10
      clear T9
      have T9 := T9n
      clear T9n
      have T10 : Hid (StsAt w10 v10 (compTo (names l) l.length)) := by unfold Hid; rw [HL.out]; exact hk10
      clear hk10
      clear hb10 C10
      have C11 := HEA2.out w10 K10.out
      go_wp2_with fail
      refine C11.mono ?_
      rintro e w11 ⟨rfl, hb11⟩
      have K11 : Hid (Below w.heap.size w w11) := bel K10.out hb11
      have T9n : Hid (StsAt w11 u17 (compTo (names l) l.length)) := T9.out.below hb11
      clear T9
      have T9 := T9n
      clear T9n
      have T10n : Hid (StsAt w11 v10 (compTo (names l) l.length)) := T10.out.below hb11
      clear T10
      have T10 := T10n
      clear T10n
      clear hb11 C11
      have C12 := texts_same v10 u17 (compTo (names l) l.length) w11 T10.out T9.out HLP.out
      go_wp2_with fail
      refine C12.mono ?_
      rintro e w12 ⟨rfl, hb12⟩
      have K12 : Hid (Below w.heap.size w w12) := bel K11.out hb12
      clear T9 T10
      clear hb12 C12
      have C13 := HRP.out w12
      go_wp2_with fail
      refine C13.mono ?_
      rintro e w13 ⟨rfl, hw⟩
      have hw2 := hw.symm; subst hw2; clear hw C13
      go_wp2_with fail
      go_loopw [22, 23] (fun d i wr2 => d = .slice none 0 0 ∧ i = .int .i64 0 ∧ Hid (Below w.heap.size w wr2)) (fun _ _ _ => 0)
      case atStart => exact ⟨rfl, rfl, K12⟩
      case round =>
        clear K12
        obtain ⟨rfl, rfl, K14⟩ := hrel
        have D14 : Hid (DtsAt _ (.slice none 0 0) []) := DtsAt.nil wr
        have C15 := HSE.out wr K14.out
        go_wp2_with fail
        refine C15.mono ?_
        rintro e w15 ⟨v15, rfl, hk15, hb15⟩
        have K15 : Hid (Below w.heap.size w w15) := bel K14.out hb15
        have D14n : Hid (DtsAt w15 (.slice none 0 0) []) := D14.out.below hb15
        clear D14
        have D14 := D14n
        clear D14n
        have D15 : Hid (DtsAt w15 v15 []) := hk15
        clear hk15
        clear hb15 C15
        have C16 := HEC2.out w15 K15.out
        go_wp2_with fail
        refine C16.mono ?_
        rintro e w16 ⟨rfl, hb16⟩
        have K16 : Hid (Below w.heap.size w w16) := bel K15.out hb16
        have D14n : Hid (DtsAt w16 (.slice none 0 0) []) := D14.out.below hb16
        clear D14
        have D14 := D14n
        clear D14n
        have D15n : Hid (DtsAt w16 v15 []) := D15.out.below hb16
        clear D15
        have D15 := D15n
        clear D15n
        clear hb16 C16
        have C17 := dots_same v15 (.slice none 0 0) [] w16 D15.out D14.out (by simp)
        go_wp2_with fail
        refine C17.mono ?_
        rintro e w17 ⟨rfl, hb17⟩
        have K17 : Hid (Below w.heap.size w w17) := bel K16.out hb17
        clear D14 D15
        clear hb17 C17
        have M19 : Hid (MksAt w17 (.slice none 0 0) []) := MksAt.nil _
        have C20 := HJO.out w17 K17.out
        go_wp2_with fail
        refine C20.mono ?_
        rintro e w20 ⟨v20, rfl, hk20, hb20⟩
        have K20 : Hid (Below w.heap.size w w20) := bel K17.out hb20
        have M19n : Hid (MksAt w20 (.slice none 0 0) []) := M19.out.below hb20
        clear M19
        have M19 := M19n
        clear M19n
        have M20 : Hid (MksAt w20 v20 []) := hk20
        clear hk20
        clear hb20 C20
        have C21 := HED2.out w20 K20.out
        go_wp2_with fail
        refine C21.mono ?_
        rintro e w21 ⟨rfl, hb21⟩
        have K21 : Hid (Below w.heap.size w w21) := bel K20.out hb21
        have M19n : Hid (MksAt w21 (.slice none 0 0) []) := M19.out.below hb21
        clear M19
        have M19 := M19n
        clear M19n
        have M20n : Hid (MksAt w21 v20 []) := M20.out.below hb21
        clear M20
        have M20 := M20n
        clear M20n
        clear hb21 C21
        have C22 := marks_same v20 (.slice none 0 0) [] w21 M20.out M19.out (by simp)
        go_wp2_with fail
        refine C22.mono ?_
        rintro e w22 ⟨rfl, hb22⟩
        have K22 : Hid (Below w.heap.size w w22) := bel K21.out hb22
        clear M19 M20
        clear hb22 C22
        go_wp2_with fail
        go_ret
        exact ⟨rfl, K22.out⟩

end Wk
end Go.Proofs.YtcmoajlcmeimiaaDoor
