/- Ways of MarksTell. -/
import Derived.Test.YtcmoajlcmeimiaaDoorWg
namespace Go.Proofs.YtcmoajlcmeimiaaDoor
namespace Wh
set_option linter.unusedVariables false
open Go.ChangeShapes Go.WideShapes Go.ChangeAt Go.RowKit Cm Ka Kb Na Nb Nc Nd Nse Nf Ng Nh Ni Nj Nk Np Nr Ns Wp Wa Wb Wc Wd We Wf Kt Kl
open La (bel bel_drew errV_zero errV_ne own_ge own_grow own_below)
open Wg

set_option maxRecDepth 100000 in
set_option maxHeartbeats 16000000 in
theorem walk_A (v : Value) (l : List Mk) (sp : ByteArray) (p1 p2 : Int) (p : ByteArray) (vs : Value) (s : List Dt) (w : World) (HJ : JoinSays) (h : MksAt w v l) (hs : ∀ x ∈ l, x.1.size ≤ maxLen) (hsp : sp.size ≤ maxLen) (hp : p.size ≤ maxLen) (hd : DtsAt w vs s) (hg : ET w) (h0 : marksE l ≠ 0) : Calls Tryd.prog 3 #[v, .agg #[.string sp, .int .i64 p1, .int .i64 p2], .string p, vs] w fun e w' => e = .returned (.bool true) ∧ Below w.heap.size w w' := by
  have HB0 : Hid (Below w.heap.size w (w.alloc (.cells #[.string sp, .int .i64 p1, .int .i64 p2] 26))) := (Below.refl _ w).alloc (Nat.le_refl _) _
  have HNC : Hid (∀ wr, Below (w.alloc (.cells #[.string sp, .int .i64 p1, .int .i64 p2] 26)).heap.size (w.alloc (.cells #[.string sp, .int .i64 p1, .int .i64 p2] 26)) wr → wr.cell? ⟨w.heap.size, 0, none⟩ = some (.string sp) ∧ wr.cell? ⟨w.heap.size, 1, none⟩ = some (.int .i64 p1) ∧ wr.cell? ⟨w.heap.size, 2, none⟩ = some (.int .i64 p2)) := fun wr hb => new_cell (x := (sp, (p1, p2))) hb
  have HG : Hid (∀ W, Below w.heap.size w W → ET W) := fun W hb => Kl.ET.below hg hb
  have HRM : Hid (∀ W, Below w.heap.size w W → Calls Tryd.prog 6 #[v] W fun e w' => e = .returned (.int .i64 (marksE l)) ∧ Below W.heap.size W w') := fun W hb => marks_ref v l W (h.below hb) hs
  have HCH : Hid (∀ W, Below w.heap.size w W → Calls Tryd.prog 8 #[v] W fun e w' => e = .returned (errV (marksE l)) ∧ Below W.heap.size W w') := fun W hb => checkM_any v l W (h.below hb) hs
  have HCU : Hid (∀ W, Below w.heap.size w W → Calls Tryd.prog 11 #[v, .agg #[.string sp, .int .i64 p1, .int .i64 p2]] W fun e w' => ∃ v', e = .returned (.tuple #[v', errV (cutE l (sp, (p1, p2)))]) ∧ MksAt w' v' (cutL l (sp, (p1, p2))) ∧ Below W.heap.size W w') := fun W hb => cut_any v l sp p1 p2 W (h.below hb) hs hsp
  have HPL : Hid (∀ W, Below w.heap.size w W → Calls Tryd.prog 13 #[v] W fun e w' => ∃ v', e = .returned (.tuple #[v', errV (marksE l)]) ∧ StsAt w' v' (placesOf l) ∧ Below W.heap.size W w') := fun W hb => places_any v l W (h.below hb) hs
  have HSE : Hid (∀ W, Below w.heap.size w W → Calls Tryd.prog 16 #[v, .string p] W fun e w' => ∃ v', e = .returned (.tuple #[v', errV (seenE l p)]) ∧ DtsAt w' v' (seenL l p) ∧ Below W.heap.size W w') := fun W hb => seen_any v l p W (h.below hb) hs hp
  have HJO : Hid (∀ W, Below w.heap.size w W → Calls Tryd.prog 20 #[v, .string p, vs] W fun e w' => ∃ v', e = .returned (.tuple #[v', errV (joinE l p s)]) ∧ MksAt w' v' (joinL l p s) ∧ Below W.heap.size W w') := fun W hb => HJ v l p vs s W (h.below hb) hs hp (hd.below hb)
  have hne : l ≠ [] := by rintro rfl; exact h0 rfl
  rw [show cutE l (sp, (p1, p2)) = marksE l by unfold cutE; rw [if_pos h0], show cutL l (sp, (p1, p2)) = [] by unfold cutL cutE; rw [if_pos h0, if_neg h0]] at HCU
  rw [show placesOf l = [] by unfold placesOf; rw [if_neg h0]] at HPL
  have hse : seenE l p = marksE l := by unfold seenE; rw [if_pos h0]
  rw [hse, show seenL l p = [] by unfold seenL; rw [hse, if_neg h0]] at HSE
  have hje : joinE l p s = marksE l := by unfold joinE; rw [if_pos (by rw [hse]; exact h0), hse]
  rw [hje, show joinL l p s = [] by unfold joinL; rw [hje, if_neg h0]] at HJO
  obtain ⟨q, hq⟩ : ∃ q, q = marksE l := ⟨_, rfl⟩
  have hqb : (q == 0) = false := by rw [hq]; simpa using h0
  rw [← hq] at HRM HCH HCU HPL HSE HJO
  have HER : Hid (∀ z W, Below w.heap.size w W → Calls Tryd.prog 7 #[errV z, .int .i64 z] W fun e w' => e = .returned (.bool true) ∧ Below W.heap.size W w') := fun z W hb => err_same z W (HG.out W hb)
  obtain ⟨q0, c0, rfl, hlf, _, hcm, _⟩ := h
  obtain ⟨qs, cs, rfl, _, hnc2, hcm2, _⟩ := hd
  obtain ⟨n, hn⟩ : ∃ n, l.length = n := ⟨_, rfl⟩
  obtain ⟨ns, hns⟩ : ∃ ns, s.length = ns := ⟨_, rfl⟩
  have HL : Hid (l.length = n) := hn
  have HI : Hid (MarksIn w q0 l) := hlf
  rw [hn] at HRM HCH HCU HPL HSE HJO
  rw [hns] at HJO
  rw [hn, hns]
  have hn0 : 0 < n := by rw [← hn]; exact List.length_pos_iff.2 hne
  have hn0z : (0 : Int) < n := by omega
  clear hs hsp hp hg h0 HJ hn hns hlf hcm hnc2 hcm2 hse hje hq hne
  obtain ⟨ea, hea⟩ : ∃ ea, ea = errV q := ⟨_, rfl⟩
  rw [← hea] at HCH HPL
  have HEA := fun W hb => HER.out q W hb
  rw [← hea] at HEA
  obtain ⟨eb, heb⟩ : ∃ eb, eb = errV q := ⟨_, rfl⟩
  rw [← heb] at HCU
  have HEB := fun W hb => HER.out q W hb
  rw [← heb] at HEB
  obtain ⟨ec, hec⟩ : ∃ ec, ec = errV q := ⟨_, rfl⟩
  rw [← hec] at HSE
  have HEC := fun W hb => HER.out q W hb
  rw [← hec] at HEC
  obtain ⟨ed, hed⟩ : ∃ ed, ed = errV q := ⟨_, rfl⟩
  rw [← hed] at HJO
  have HED := fun W hb => HER.out q W hb
  rw [← hed] at HED
  have HEA2 : Hid (∀ W, Below w.heap.size w W → _) := HEA
  have HEB2 : Hid (∀ W, Below w.heap.size w W → _) := HEB
  have HEC2 : Hid (∀ W, Below w.heap.size w W → _) := HEC
  have HED2 : Hid (∀ W, Below w.heap.size w W → _) := HED
  clear HEA HEB HEC HED HER hea heb hec hed HG
  go_enter Tryd.func3, Tryd.ntmps3
  have C1 := HRM.out _ HB0.out
  go_wp2_with fail
  refine C1.mono ?_
  rintro e w1 ⟨rfl, hb1⟩
  have K1 : Hid (Below w.heap.size w w1) := bel HB0.out hb1
  obtain ⟨g0, g1, g2⟩ := HNC.out w1 hb1
  clear hb1 C1 HNC HB0
  have C2 := HCH.out w1 K1.out
  go_wp2_with fail
  refine C2.mono ?_
  rintro e w2 ⟨rfl, hb2⟩
  have K2 : Hid (Below w.heap.size w w2) := bel K1.out hb2
  have g0' := keep_cell hb2 g0
  have g1' := keep_cell hb2 g1
  have g2' := keep_cell hb2 g2
  clear hb2 C2
  clear g0 g1 g2
  have g0 := g0'
  have g1 := g1'
  have g2 := g2'
  clear g0' g1' g2'
  have C3 := HEA2.out w2 K2.out
  go_wp2_with fail
  refine C3.mono ?_
  rintro e w3 ⟨rfl, hb3⟩
  have K3 : Hid (Below w.heap.size w w3) := bel K2.out hb3
  have g0' := keep_cell hb3 g0
  have g1' := keep_cell hb3 g1
  have g2' := keep_cell hb3 g2
  clear hb3 C3
  clear g0 g1 g2
  have g0 := g0'
  have g1 := g1'
  have g2 := g2'
  clear g0' g1' g2'
  have M5 : Hid (MksAt w3 (.slice none 0 0) []) := MksAt.nil _
  have C6 := HCU.out w3 K3.out
  go_wp2_with fail
  refine C6.mono ?_
  rintro e w6 ⟨v6, rfl, hk6, hb6⟩
  have K6 : Hid (Below w.heap.size w w6) := bel K3.out hb6
  have M5n : Hid (MksAt w6 (.slice none 0 0) []) := M5.out.below hb6
  clear M5
  have M5 := M5n
  clear M5n
  have M6 : Hid (MksAt w6 v6 []) := hk6
  clear hk6 g0 g1 g2
  clear hb6 C6
  have C7 := HEB2.out w6 K6.out
  go_wp2_with fail
  refine C7.mono ?_
  rintro e w7 ⟨rfl, hb7⟩
  have K7 : Hid (Below w.heap.size w w7) := bel K6.out hb7
  have M5n : Hid (MksAt w7 (.slice none 0 0) []) := M5.out.below hb7
  clear M5
  have M5 := M5n
  clear M5n
  have M6n : Hid (MksAt w7 v6 []) := M6.out.below hb7
  clear M6
  have M6 := M6n
  clear M6n
  clear hb7 C7
  have C8 := marks_same v6 (.slice none 0 0) [] w7 M6.out M5.out (by simp)
  go_wp2_with fail
  refine C8.mono ?_
  rintro e w8 ⟨rfl, hb8⟩
  have K8 : Hid (Below w.heap.size w w8) := bel K7.out hb8
  clear M5 M6
  clear hb8 C8
  go_wp2_with fail
  go_loopw [17, 18] (fun d i wr => d = .slice none 0 0 ∧ i = .int .i64 0 ∧ Hid (Below w.heap.size w wr)) (fun _ _ _ => 0)
  case atStart => exact ⟨rfl, rfl, K8⟩
  case round =>
    clear K8
    obtain ⟨rfl, rfl, K9⟩ := hrel
    have T9 : Hid (StsAt wr (.slice none 0 0) []) := StsAt.nil _
    have C10 := HPL.out wr K9.out
    go_wp2_with fail
    refine C10.mono ?_
    rintro e w10 ⟨v10, rfl, hk10, hb10⟩
    have K10 : Hid (Below w.heap.size w w10) := bel K9.out hb10
    have T9n : Hid (StsAt w10 (.slice none 0 0) []) := T9.out.below hb10
    clear T9
    have T9 := T9n
    clear T9n
    have T10 : Hid (StsAt w10 v10 []) := hk10
    clear hk10
    clear hb10 C10
    have C11 := HEA2.out w10 K10.out
    go_wp2_with fail
    refine C11.mono ?_
    rintro e w11 ⟨rfl, hb11⟩
    have K11 : Hid (Below w.heap.size w w11) := bel K10.out hb11
    have T9n : Hid (StsAt w11 (.slice none 0 0) []) := T9.out.below hb11
    clear T9
    have T9 := T9n
    clear T9n
    have T10n : Hid (StsAt w11 v10 []) := T10.out.below hb11
    clear T10
    have T10 := T10n
    clear T10n
    clear hb11 C11
    have C12 := texts_same v10 (.slice none 0 0) [] w11 T10.out T9.out (by simp)
    go_wp2_with fail
    refine C12.mono ?_
    rintro e w12 ⟨rfl, hb12⟩
    have K12 : Hid (Below w.heap.size w w12) := bel K11.out hb12
    clear T9 T10
    clear hb12 C12
    go_wp2_with fail
    go_loopw [22, 23] (fun d i wr2 => d = .slice none 0 0 ∧ i = .int .i64 0 ∧ Hid (Below w.heap.size w wr2)) (fun _ _ _ => 0)
    case atStart => exact ⟨rfl, rfl, K12⟩
    case round =>
      clear K12
      obtain ⟨rfl, rfl, K14⟩ := hrel
      have D14 : Hid (DtsAt _ (.slice none 0 0) []) := DtsAt.nil wr
      have C15 := HSE.out wr K14.out
      go_wp2_with fail
      refine C15.mono ?_
      rintro e w15 ⟨v15, rfl, hk15, hb15⟩
      have K15 : Hid (Below w.heap.size w w15) := bel K14.out hb15
      have D14n : Hid (DtsAt w15 (.slice none 0 0) []) := D14.out.below hb15
      clear D14
      have D14 := D14n
      clear D14n
      have D15 : Hid (DtsAt w15 v15 []) := hk15
      clear hk15
      clear hb15 C15
      have C16 := HEC2.out w15 K15.out
      go_wp2_with fail
      refine C16.mono ?_
      rintro e w16 ⟨rfl, hb16⟩
      have K16 : Hid (Below w.heap.size w w16) := bel K15.out hb16
      have D14n : Hid (DtsAt w16 (.slice none 0 0) []) := D14.out.below hb16
      clear D14
      have D14 := D14n
      clear D14n
      have D15n : Hid (DtsAt w16 v15 []) := D15.out.below hb16
      clear D15
      have D15 := D15n
      clear D15n
      clear hb16 C16
      have C17 := dots_same v15 (.slice none 0 0) [] w16 D15.out D14.out (by simp)
      go_wp2_with fail
      refine C17.mono ?_
      rintro e w17 ⟨rfl, hb17⟩
      have K17 : Hid (Below w.heap.size w w17) := bel K16.out hb17
      clear D14 D15
      clear hb17 C17
      have M19 : Hid (MksAt w17 (.slice none 0 0) []) := MksAt.nil _
      have C20 := HJO.out w17 K17.out
      go_wp2_with fail
      refine C20.mono ?_
      rintro e w20 ⟨v20, rfl, hk20, hb20⟩
      have K20 : Hid (Below w.heap.size w w20) := bel K17.out hb20
      have M19n : Hid (MksAt w20 (.slice none 0 0) []) := M19.out.below hb20
      clear M19
      have M19 := M19n
      clear M19n
      have M20 : Hid (MksAt w20 v20 []) := hk20
      clear hk20
      clear hb20 C20
      have C21 := HED2.out w20 K20.out
      go_wp2_with fail
      refine C21.mono ?_
      rintro e w21 ⟨rfl, hb21⟩
      have K21 : Hid (Below w.heap.size w w21) := bel K20.out hb21
      have M19n : Hid (MksAt w21 (.slice none 0 0) []) := M19.out.below hb21
      clear M19
      have M19 := M19n
      clear M19n
      have M20n : Hid (MksAt w21 v20 []) := M20.out.below hb21
      clear M20
      have M20 := M20n
      clear M20n
      clear hb21 C21
      have C22 := marks_same v20 (.slice none 0 0) [] w21 M20.out M19.out (by simp)
      go_wp2_with fail
      refine C22.mono ?_
      rintro e w22 ⟨rfl, hb22⟩
      have K22 : Hid (Below w.heap.size w w22) := bel K21.out hb22
      clear M19 M20
      clear hb22 C22
      go_wp2_with fail
      go_ret
      exact ⟨rfl, K22.out⟩

end Wh
end Go.Proofs.YtcmoajlcmeimiaaDoor
