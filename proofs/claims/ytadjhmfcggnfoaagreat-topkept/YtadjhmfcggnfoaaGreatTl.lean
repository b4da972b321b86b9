/- TopKept's walk: what is asked of package log is a premise here. -/
import Derived.Test.YtadjhmfcggnfoaaGreatTh
import Derived.Test.YtadjhmfcggnfoaaGreatTk
import Derived.Test.YtadjhmfcggnfoaaGreatYh
import Derived.Test.YtadjhmfcggnfoaaGreatAe
import Derived.Test.YtadjhmfcggnfoaaGreatDg
import Derived.Deep.DeepCutAuto
import Derived.Deep.RegionHeld3
namespace Go.Proofs.YtadjhmfcggnfoaaGreat
namespace Tl
set_option linter.unusedVariables false
set_option linter.unusedSimpArgs false
open Go.ChangeShapes Go.WideShapes Go.ChangeAt Go.RowKit Cm Ka Kb Na Om Oa Oz Oc Og Oi Hm Ia Ib Ic Idc Ie If Ig Ih Ii Ij Ik Il Im Tg Th Tk Aa Ac Ae Yh
open La (bel_drew errV_zero errV_ne own_ge own_grow own_below Lies LeafsIn)
open Iq (run run_next run_inv off_old)
open Lj (BookAt)

theorem Hid.mk' {p : Prop} (h : p) : Hid p := h
/- a doc and a log side by side -/
structure Tw (L : LogSays) (w wr : World) (D X : Nat) (S : Dq) (s : Lg) (Fa F : Nat → Prop) : Prop where
  doc : DocAt wr D S Fa
  log : L.At wr X s F
  off : ∀ g, Fa g → ¬ F g
  lowA : ∀ g, Fa g → w.heap.size ≤ g
  lowF : ∀ g, F g → w.heap.size ≤ g
  bel : Below w.heap.size w wr
section
variable {L : LogSays} {w wr w' : World} {D X : Nat} {S S' : Dq} {s s' : Lg} {Fa F : Nat → Prop}
theorem Tw.below (h : Tw L w wr D X S s Fa F) (hb : Below wr.heap.size wr w') : Tw L w w' D X S s Fa F := ⟨h.doc.below hb, L.below h.log hb, h.off, h.lowA, h.lowF, La.bel h.bel hb⟩
theorem Tw.set_d (h : Tw L w wr D X S s Fa F) (hl : ∃ F', DocAt w' D S' F' ∧ Chg Fa wr w' ∧ ∀ g, F' g → Fa g ∨ wr.heap.size ≤ g) : ∃ Fa', Tw L w w' D X S' s Fa' F := by
  obtain ⟨F', h1, h2, h3⟩ := hl
  refine ⟨F', h1, L.chg h.log h2 (fun g e1 e2 => h.off g e2 e1), fun g e1 e2 => ?_, fun g e => ?_, h.lowF, h2.below h.lowA h.bel h.bel.size⟩
  · rcases h3 g e1 with e | e
    · exact h.off g e e2
    · have := L.lt h.log g e2; omega
  · rcases h3 g e with e | e
    · exact h.lowA g e
    · have := h.bel.size; omega
theorem Tw.set_l (h : Tw L w wr D X S s Fa F) (hl : ∃ F', L.At w' X s' F' ∧ Chg F wr w' ∧ ∀ g, F' g → F g ∨ wr.heap.size ≤ g) : ∃ F', Tw L w w' D X S s' Fa F' ∧ Chg F wr w' ∧ ∀ g, F' g → F g ∨ wr.heap.size ≤ g := by
  obtain ⟨F', h1, h2, h3⟩ := hl
  refine ⟨F', ⟨h.doc.chg h2 (fun g e1 e2 => h.off g e1 e2), h1, fun g e1 e2 => ?_, h.lowA, fun g e => ?_, h2.below h.lowF h.bel h.bel.size⟩, h2, h3⟩
  · rcases h3 g e2 with e | e
    · exact h.off g e1 e
    · have := h.doc.lt g e1; omega
  · rcases h3 g e with e | e
    · exact h.lowF g e
    · have := h.bel.size; omega
end
theorem err_two (k : Int) : errV k = .nilIface ∨ ∃ z, errV k = .iface 67 (.int .i64 z) := by
  unfold errV; split
  · exact Or.inl rfl
  · exact Or.inr ⟨_, rfl⟩
theorem go_fit {s : Lg} {S : Dq} {k : Nat} (h : Go s S k) (hk : k ≤ 400) : Fit s := ⟨by have := h.small; omega, by have := h.few; omega⟩
set_option maxRecDepth 100000 in
set_option maxHeartbeats 16000000 in
theorem walk (L : LogSays) (vl : Value) (l : List Ox) (sy ke : Int) (w : World) (hl : OpsAt w vl l) (hsz : ∀ x ∈ l, x.2.2.1.size ≤ maxLen) :
    Calls Tryz.prog 3 #[vl, .int .i64 sy, .int .i64 ke] w fun e w' => e = .returned (.bool true) ∧ Below w.heap.size w w' := by
  obtain ⟨ql, cl, rfl, hlin, _⟩ := hl
  obtain ⟨n, hn⟩ : ∃ n, n = l.length := ⟨_, rfl⟩
  rw [← hn]
  have HN : Hid (l.length = n) := hn.symm
  have HLI : Hid (OpsIn w ql l) := hlin
  have HSZ : Hid (∀ x ∈ l, x.2.2.1.size ≤ maxLen) := hsz
  clear hlin hsz hn
  go_enter Tryz.func3, Tryz.ntmps3
  go_wp2_with fail
  refine (one_any w).mono ?_
  rintro e w1 ⟨rfl, hb1⟩
  have HB1 := Hid.mk' hb1
  clear hb1
  go_wp2_with fail
  refine (new_any w1).mono ?_
  rintro e w2 ⟨D, F2, rfl, hd2, hf2, hb2⟩
  have HD2 : Hid (DocAt w2 D (run l 0) F2) := hd2
  have HB2 : Hid (Below w.heap.size w w2) := La.bel HB1.out hb2
  have HF2 : Hid (∀ g, F2 g → w.heap.size ≤ g) := fun g hg => Nat.le_trans HB1.out.size (hf2 g hg)
  clear hd2 hf2 hb2 HB1
  go_wp2_with fail
  refine (L.new w2).mono ?_
  rintro e w3 ⟨X, F3, rfl, hx3, hf3, hb3⟩
  have HT3 : Hid (Tw L w w3 D X (run l 0) Tg.new F2 F3) := ⟨HD2.out.below hb3, hx3, fun g e1 e2 => by have h1 := HD2.out.lt g e1; have h2 := hf3 g e2; omega, HF2.out, fun g e => Nat.le_trans HB2.out.size (hf3 g e), La.bel HB2.out hb3⟩
  have HG3 : Hid (Go Tg.new (run l 0) 0) := ⟨rfl, rfl, rfl, Nat.zero_le _, Nat.zero_le _⟩
  clear hx3 hf3 hb3 HD2 HF2 HB2
  go_wp2_with fail
  go_loopw [10] (fun vi wr => ∃ (k : Nat) (s : Lg) (Fa F : Nat → Prop), k ≤ n ∧ k ≤ 60 ∧ vi = .int .i64 k ∧ Hid (Tw L w wr D X (run l k) s Fa F) ∧ Hid (Go s (run l k) k)) (fun vi _ => 60 - (intOf vi).toNat)
  case atStart => exact ⟨0, Tg.new, F2, F3, by omega, by omega, rfl, HT3, HG3⟩
  case round =>
    clear HT3 HG3
    obtain ⟨k, s, Fa, F, hk, hk60, rfl, HT, HG⟩ := hrel
    go_upto_region 7 with fail
    go_cut [35] (fun s35 wx => ∃ t : Bool, s35 = .bool t ∧ Hid (t = decide (k < n ∧ k < 60)) ∧ wr = wx)
    case first =>
      by_cases h1 : k < n
      · have h1z : (k : Int) < n := by omega
        by_cases h2 : k < 60
        · have h2z : (k : Int) < 60 := by omega
          go_wp2_with fail
          go_meet
          case rel => exact ⟨true, rfl, (decide_eq_true ⟨h1, h2⟩).symm, rfl⟩
        · have h2z : ¬ (k : Int) < 60 := by omega
          have H2 : Hid (decide (k < n ∧ k < 60) = false) := decide_eq_false (fun h => h2 h.2)
          go_wp2_with fail
          go_meet
          case rel => exact ⟨false, by simp [h2], H2.out.symm, rfl⟩
      · have h1z : ¬ (k : Int) < n := by omega
        have H2 : Hid (decide (k < n ∧ k < 60) = false) := decide_eq_false (fun h => h1 h.1)
        go_wp2_with fail
        go_meet
        case rel => exact ⟨false, rfl, H2.out.symm, rfl⟩
    case rest =>
    obtain ⟨tt, rfl, HTT, hwx⟩ := hcut
    subst hwx
    cases tt
    case true =>
      obtain ⟨hlt1, hlt2⟩ := of_decide_eq_true HTT.out.symm
      have hltz : (k : Int) < n := by omega
      have hkl : k < l.length := by rw [HN.out]; exact hlt1
      obtain ⟨bo, oo, rfl, hc⟩ := HLI.out.some (by intro e; rw [e] at hkl; simp at hkl)
      have ha0 := hc k hkl
      have hxm := HSZ.out _ (getO_mem hkl)
      have HRN : Hid (run l (k + 1) = apS (run l k) (l.getD k oz)) := run_next hkl
      obtain ⟨x, hx⟩ : ∃ x, x = l.getD k oz := ⟨_, rfl⟩
      rw [← hx] at ha0 hxm HRN
      obtain ⟨⟨xa, xb⟩, xt, xp, xc, xss⟩ := x
      obtain ⟨vx, ⟨g0, g1, g2, g3, g4, g5⟩, hdx0⟩ := ha0
      simp only at g0 g1 g2 g3 g4 g5 hdx0 hxm
      obtain ⟨pv, nv, cv, rfl⟩ : ∃ pv nv cv, vx = .slice pv nv cv := by obtain ⟨_, _, e9, _⟩ := hdx0; exact ⟨_, _, _, e9⟩
      have C := apply_any D (run l k) Fa xa xb xt xp xc (.slice pv nv cv) xss wr HT.out.doc (hdx0.below HT.out.bel) (off_old hdx0 HT.out.lowA) hxm
      have HOP : Hid (∀ W, Below w.heap.size w W → W.cell? ⟨bo, oo + k * 6, none⟩ = some (.int .i64 xa) ∧ W.cell? ⟨bo, oo + k * 6 + 1, none⟩ = some (.int .i64 xb) ∧ W.cell? ⟨bo, oo + k * 6 + 2, none⟩ = some (.int .i64 xt) ∧ W.cell? ⟨bo, oo + k * 6 + 3, none⟩ = some (.string xp) ∧ W.cell? ⟨bo, oo + k * 6 + 4, none⟩ = some (.int .i64 xc) ∧ W.cell? ⟨bo, oo + k * 6 + 5, none⟩ = some (.slice pv nv cv)) := fun W hb => ⟨keep_cell hb g0, keep_cell hb g1, keep_cell hb g2, keep_cell hb g3, keep_cell hb g4, keep_cell hb g5⟩
      have HDX := Hid.mk' hdx0
      have HXM := Hid.mk' hxm
      obtain ⟨a0, a1, a2, a3, a4, a5⟩ := HOP.out wr HT.out.bel
      clear hc hx hkl hxm hdx0 g0 g1 g2 g3 g4 g5
      go_wp2_with fail
      refine C.mono ?_
      rintro e w4 ⟨he, _, hl4⟩
      obtain ⟨Fa4, hT4⟩ := HT.out.set_d hl4
      rw [← HRN.out] at hT4
      have HT4 := Hid.mk' hT4
      obtain ⟨nw, hnw⟩ : ∃ nw, nw = isNew (run l k) ((xa, xb), xt, xp, xc, xss) := ⟨_, rfl⟩
      obtain ⟨ae, hae⟩ : ∃ ae, ae = apE (run l k) ((xa, xb), xt, xp, xc, xss) := ⟨_, rfl⟩
      rw [← hnw, ← hae] at he
      subst he
      have CP := L.put X s F xa xb xt xp xc (.slice pv nv cv) xss w4 hT4.log (go_fit HG.out (by omega)) (HDX.out.below hT4.bel) (off_old HDX.out hT4.lowF) HXM.out
      have HPG : Hid (∀ r, r ≤ 100000 → Go (putS s ((xa, xb), xt, xp, xc, xss) r) (run l (k + 1)) (k + 1)) := fun r hr => by rw [HRN.out]; exact (HG.out.put _ hr).2.2
      rw [(HG.out.put ((xa, xb), xt, xp, xc, xss) (r := 0) (by omega)).1, (HG.out.put ((xa, xb), xt, xp, xc, xss) (r := 0) (by omega)).2.1, ← hnw, ← hae] at CP
      clear hl4 hT4 C a0 a1 a2 a3 a4 a5 hnw hae HG HT
      obtain ⟨a0, a1, a2, a3, a4, a5⟩ := HOP.out w4 HT4.out.bel
      rcases err_two ae with hee | ⟨z, hee⟩
      all_goals
        rw [hee] at CP ⊢
        go_wp2_with fail
        refine CP.mono ?_
        rintro e w5 ⟨rfl, r5, F5, _, hr5, hx5, hc5, hf5⟩
        obtain ⟨F5', hT5, _, _⟩ := HT4.out.set_l ⟨F5, hx5, hc5, hf5⟩
        have HT5 := Hid.mk' hT5
        have HG5 := Hid.mk' (HPG.out r5 hr5)
        clear hx5 hc5 hf5 hT5 CP a0 a1 a2 a3 a4 a5 hr5 hee
        generalize putS s ((xa, xb), xt, xp, xc, xss) r5 = s5 at HT5 HG5
        cases nw
        all_goals
          go_wp2_with fail
          go_quiet (fail)
          generalize hwq : World.drewN w5 _ = w6
          have HT6 := Hid.mk' (HT5.out.below (w' := w6) (by rw [← hwq]; exact bel_drew (Below.refl _ _) _))
          clear hwq
          by_cases hsy : (k : Int) = sy
          · have hsb : ((k : Int) == sy) = true := by simp [hsy]
            have CS := L.sync X s5 F5' w6 HT6.out.log (go_fit HG5.out (by omega))
            rw [HG5.out.sync.1, errV_zero] at CS
            have HG7 := Hid.mk' HG5.out.sync.2
            clear hsy
            go_wp2_with fail
            refine CS.mono ?_
            rintro e w7 ⟨rfl, hl7⟩
            obtain ⟨F7, hT7, _, _⟩ := HT6.out.set_l hl7
            have HT7 := Hid.mk' hT7
            clear hl7 hT7 CS
            go_wp2_with fail
            go_roundw
            case rel => exact ⟨k + 1, _, _, _, by omega, by omega, by go_num, HT7, HG7⟩
            case measure => simp [intOf]; omega
          · have hsb : ((k : Int) == sy) = false := by simpa using hsy
            clear hsy
            go_wp2_with fail
            go_roundw
            case rel => exact ⟨k + 1, _, _, _, by omega, by omega, by go_num, HT6, HG5⟩
            case measure => simp [intOf]; omega
    case false =>
      clear HTT HLI HSZ
      obtain ⟨S, hS⟩ : ∃ S, S = run l k := ⟨_, rfl⟩
      rw [← hS] at HT HG
      have HSI : Hid (Inv S) := HT.out.doc.inv
      have hok := L.ok HT.out.log
      obtain ⟨O, hO⟩ : ∃ O, O = s.ops := ⟨_, rfl⟩
      obtain ⟨j, hj⟩ : ∃ j, j = leftN s ke := ⟨_, rfl⟩
      have HNO : Hid (News d0 O) := by rw [hO]; exact hok.news
      have HSO : Hid (S = st O) := by rw [hO]; exact HG.out.doc.symm
      have HOO : Hid (S.ops = O) := by rw [Hid, HSO.out]; unfold st; rw [ops_st HNO.out]; rfl
      have HJL : Hid (j ≤ O.length) := by rw [hj, hO, ← hok.len]; exact left_le s ke
      have HOL : Hid (O.length ≤ 60) := by rw [hO]; have := HG.out.few; rw [Hid]; omega
      have HGC : Hid (Go (crashS s ke) (st (O.take j)) 60) := by
        refine ⟨rfl, rfl, ?_, ?_, ?_⟩
        · show st (s.ops.take (leftN s ke)) = _; rw [hO, hj]
        · show (s.ends.take (leftN s ke)).getLastD 0 ≤ _
          have h1 := last_le hok.rise (leftN s ke)
          have h2 := hok.hi
          have h3 := HG.out.small
          unfold Tg.top at h2
          omega
        · show (s.ops.take (leftN s ke)).length ≤ _
          rw [List.length_take]
          have := HG.out.few
          omega
      have CC := L.crash X s F ke wr HT.out.log (go_fit HG.out (by omega))
      clear hS hO hj hok
      go_wp2_with fail
      refine CC.mono ?_
      rintro e w4 ⟨rfl, hl4⟩
      obtain ⟨F4, hT4, _, _⟩ := HT.out.set_l hl4
      generalize crashS s ke = s4 at HGC hT4
      have HT4 := Hid.mk' hT4
      have CO := ops_get D S Fa w4 hT4.doc
      rw [HOO.out] at CO
      clear hl4 hT4 CC HT HG
      go_wp2_with fail
      refine CO.mono ?_
      rintro e w5 ⟨v5, rfl, ho5, hb5⟩
      obtain ⟨p5, n5, c5, rfl⟩ := new_shape ho5
      have HO5 : Hid (OpsNew w4.heap.size w5 (.slice p5 n5 c5) O) := ho5
      have HT5 := Hid.mk' (HT4.out.below hb5)
      have CD := L.doc X s4 F4 w5 HT5.out.log
      clear ho5 hb5 CO HT4
      go_wp2_with fail
      refine CD.mono ?_
      rintro e w6 ⟨D6, Fd6, rfl, hd6, _, hb6⟩
      rw [HGC.out.doc] at hd6
      have HT6 := Hid.mk' (HT5.out.below hb6)
      have HO6 := Hid.mk' (HO5.out.below hb6)
      have CK := known_get D6 _ Fd6 w6 hd6
      clear hd6 hb6 CD HT5 HO5
      go_wp2_with fail
      refine CK.mono ?_
      rintro e w7 ⟨v7, rfl, hk7, _, hb7⟩
      obtain ⟨p7, n7, c7, rfl⟩ : ∃ p n c, v7 = .slice p n c := by obtain ⟨p, c, e, _⟩ := hk7; exact ⟨_, _, _, e⟩
      have HT7 := Hid.mk' (HT6.out.below hb7)
      have HO7 := Hid.mk' (HO6.out.below hb7)
      have HSM : Hid (∀ x ∈ O, x.2.2.1.size ≤ maxLen) := fun x hx => small_place (opE_zero.1 (news_op HNO.out x hx)).2.2.1
      have CL := lacks_any (.slice p5 n5 c5) (.slice p7 n7 c7) O _ w7 (OpsJ.made HO7.out).at HSM.out hk7
      have HLE : Hid (lackE O (st (O.take j)).known = 0) := lack_ok HNO.out j (vec_ok (inv_st (O.take j)))
      have HLL : Hid (lackL O (st (O.take j)).known = O.drop j) := lack_rest HNO.out HJL.out
      unfold LkPost at CL
      rw [HLE.out, HLL.out, errV_zero, show outL 0 (O.drop j) = O.drop j by unfold outL; rw [if_pos rfl]] at CL
      clear hk7 hb7 CK HT6 HO6
      go_wp2_with fail
      refine CL.mono ?_
      rintro e w8 ⟨p8, n8, c8, rfl, ho8, hb8⟩
      have HT8 := Hid.mk' (HT7.out.below hb8)
      have HO8 : Hid (OpsJ (New w7.heap.size w8) (New w7.heap.size w8) w8 (.slice p8 n8 c8) (O.drop j)) := ho8
      have HN8 : Hid (n8 = O.length - j) := by obtain ⟨_, _, e, _⟩ := ho8; injection e with _ e _; rw [Hid, e, List.length_drop]
      have hn8b : n8 ≤ 60 := by have h1 := HN8.out; have h2 := HOL.out; omega
      have HF8 : Hid (∀ g, New w7.heap.size w8 g → ¬ F4 g) := fun g hg e => by have h1 := L.lt HT7.out.log g e; have h2 := hg.1; omega
      clear ho8 hb8 CL HT7 HO7
      go_wp2_with fail
      go_loopw [17] (fun vi wx => ∃ (i : Nat) (s : Lg) (F : Nat → Prop), i ≤ n8 ∧ vi = .int .i64 i ∧ Hid (Tw L w wx D X S s Fa F) ∧ Hid (Go s (st (O.take (j + i))) (60 + i)) ∧ Hid (OpsJ (New w7.heap.size w8) (New w7.heap.size w8) wx (.slice p8 n8 c8) (O.drop j)) ∧ Hid (∀ g, New w7.heap.size w8 g → g < wx.heap.size ∧ ¬ F g)) (fun vi _ => n8 - (intOf vi).toNat)
      case atStart => exact ⟨0, s4, F4, Nat.zero_le _, rfl, HT8, by rw [Nat.add_zero, Nat.add_zero]; exact HGC.out, HO8, fun g hg => ⟨hg.2, HF8.out g hg⟩⟩
      case round =>
        clear HT8 HO8 HF8 HGC
        obtain ⟨i, s, F, hi, rfl, HT, HG, HO, HF⟩ := hrel
        by_cases hlt : i < n8
        · have hltz : (i : Int) < n8 := by omega
          have hid : i < (O.drop j).length := by rw [List.length_drop]; have := HN8.out; omega
          obtain ⟨q9, c9, e9, hin, _⟩ := HO.out
          injection e9 with e1 e2 e3
          clear e2 e3
          obtain ⟨bo, oo, hp, hR, hc⟩ := hin.some (by intro e; rw [e] at hid; simp at hid)
          rw [← e1] at hp
          subst hp
          have ha0 := hc i hid
          have hij : j + i < O.length := by have := HN8.out; omega
          have HNW : Hid (isNew (st (O.take (j + i))) ((O.drop j).getD i oz) = true) := by
            have h9 := news_at HNO.out hij
            rw [Hid]
            have e9 : (O.drop j).getD i oz = O.getD (j + i) oz := by rw [List.getD_eq_getElem?_getD, List.getD_eq_getElem?_getD, List.getElem?_drop]
            rw [e9]; exact h9
          have HAP : Hid (st (O.take (j + (i + 1))) = apS (st (O.take (j + i))) ((O.drop j).getD i oz)) := by
            rw [Hid, show j + (i + 1) = (j + i) + 1 by omega]
            have e9 : (O.drop j).getD i oz = O.getD (j + i) oz := by rw [List.getD_eq_getElem?_getD, List.getD_eq_getElem?_getD, List.getElem?_drop]
            rw [e9, st_take, st_take]; exact run_next hij
          have hxm : ((O.drop j).getD i oz).2.2.1.size ≤ maxLen := HSM.out _ (List.mem_of_mem_drop (getO_mem hid))
          obtain ⟨x, hx⟩ : ∃ x, x = (O.drop j).getD i oz := ⟨_, rfl⟩
          rw [← hx] at ha0 HNW HAP hxm
          obtain ⟨⟨xa, xb⟩, xt, xp, xc, xss⟩ := x
          obtain ⟨vx, ⟨g0, g1, g2, g3, g4, g5⟩, hdx0, hdi⟩ := ha0
          simp only at g0 g1 g2 g3 g4 g5 hdx0 hxm hdi
          obtain ⟨pv, nv, cv, rfl⟩ : ∃ pv nv cv, vx = .slice pv nv cv := by obtain ⟨_, _, e9, _⟩ := hdx0; exact ⟨_, _, _, e9⟩
          have CP := L.put X s F xa xb xt xp xc (.slice pv nv cv) xss wr HT.out.log (go_fit HG.out (by have := HOL.out; have := HN8.out; omega)) hdx0 (hdi.mono fun g hg => (HF.out g hg).2) hxm
          rw [(HG.out.put ((xa, xb), xt, xp, xc, xss) (r := 0) (by omega)).1, (HG.out.put ((xa, xb), xt, xp, xc, xss) (r := 0) (by omega)).2.1, HNW.out, Iq.new_zero HNW.out, errV_zero] at CP
          have HPG : Hid (∀ r, r ≤ 100000 → Go (putS s ((xa, xb), xt, xp, xc, xss) r) (st (O.take (j + (i + 1)))) (60 + (i + 1))) := fun r hr => by rw [HAP.out]; exact (HG.out.put _ hr).2.2
          clear hc hx hxm hdx0 hdi hin hR hid hij e1 HG
          go_wp2_with fail
          refine CP.mono ?_
          rintro e w9 ⟨rfl, r9, F9, _, hr9, hx9, hc9, hf9⟩
          have HO9 : Hid (OpsJ (New w7.heap.size w8) (New w7.heap.size w8) w9 (.slice (some ⟨bo, oo, none⟩) n8 c8) (O.drop j)) := HO.out.stay (hc9.stay fun g hg => HF.out g hg) (hc9.stay fun g hg => HF.out g hg)
          have HF9 : Hid (∀ g, New w7.heap.size w8 g → g < w9.heap.size ∧ ¬ F9 g) := fun g hg => ⟨Nat.lt_of_lt_of_le (HF.out g hg).1 hc9.size, fun e => by
            rcases hf9 g e with e | e
            · exact (HF.out g hg).2 e
            · have := (HF.out g hg).1; omega⟩
          obtain ⟨FX, hTX, _, _⟩ : ∃ F', Tw L w w9 D X S (putS s ((xa, xb), xt, xp, xc, xss) r9) Fa F' ∧ F' = F9 ∧ True := by
            refine ⟨F9, ⟨HT.out.doc.chg hc9 (fun g e1 e2 => HT.out.off g e1 e2), hx9, fun g e1 e2 => ?_, HT.out.lowA, fun g e => ?_, hc9.below HT.out.lowF HT.out.bel HT.out.bel.size⟩, rfl, trivial⟩
            · rcases hf9 g e2 with e | e
              · exact HT.out.off g e1 e
              · have := HT.out.doc.lt g e1; omega
            · rcases hf9 g e with e | e
              · exact HT.out.lowF g e
              · have := HT.out.bel.size; omega
          rename_i hFX _
          rw [hFX] at hTX
          have HTX := Hid.mk' hTX
          have HG9 := Hid.mk' (HPG.out r9 hr9)
          clear hx9 hc9 hf9 hTX CP hr9 hFX
          go_wp2_with fail
          go_roundw
          case rel => exact ⟨i + 1, _, _, by omega, by go_num, HTX, HG9, HO9, HF9⟩
          case measure => simp [intOf]; omega
        · obtain rfl : i = n8 := by omega
          have hltz : ¬ (i : Int) < i := by omega
          have HDS : Hid (Tg.doc s = S) := by
            rw [Hid, HG.out.doc, HSO.out, List.take_of_length_le (by have := HN8.out; omega)]
          have CB := book_get D S Fa wr HT.out.doc
          clear hlt HO HF HG
          go_wp2_with fail
          refine CB.mono ?_
          rintro e w9 ⟨v9, rfl, hk9, hb9⟩
          have HT9 := Hid.mk' (HT.out.below hb9)
          have HK9 : Hid (BookAt w9 v9 S.book) := hk9.1
          obtain ⟨p9, n9, c9, rfl⟩ : ∃ p n c, v9 = .slice p n c := by obtain ⟨p, c, e, _⟩ := hk9.1; exact ⟨_, _, _, e⟩
          have CD := L.doc X s F w9 HT9.out.log
          clear hk9 hb9 CB
          go_wp2_with fail
          refine CD.mono ?_
          rintro e w10 ⟨D10, Fd10, rfl, hd10, _, hb10⟩
          rw [HDS.out] at hd10
          have HT10 := Hid.mk' (HT9.out.below hb10)
          have HK10 := Hid.mk' (HK9.out.below hb10)
          have CB := book_get D10 S Fd10 w10 hd10
          clear hd10 hb10 CD
          go_wp2_with fail
          refine CB.mono ?_
          rintro e w11 ⟨v11, rfl, hk11, hb11⟩
          obtain ⟨p11, n11, c11, rfl⟩ : ∃ p n c, v11 = .slice p n c := by obtain ⟨p, c, e, _⟩ := hk11.1; exact ⟨_, _, _, e⟩
          have HT11 := Hid.mk' (HT10.out.below hb11)
          have CE := Lk.leafs_any (.slice p9 n9 c9) (.slice p11 n11 c11) S.book S.book w11 (HK10.out.below hb11) hk11.1 (by have := few_book HSI.out; omega)
          rw [decide_eq_true rfl] at CE
          clear hk11 hb11 CB
          go_wp2_with fail
          refine CE.mono ?_
          rintro e w12 ⟨rfl, hb12⟩
          have HT12 := Hid.mk' (HT11.out.below hb12)
          have CM := marks_get D S Fa w12 HT12.out.doc
          clear hb12 CE
          go_wp2_with fail
          refine CM.mono ?_
          rintro e w13 ⟨v13, rfl, hk13, hb13⟩
          obtain ⟨p13, n13, c13, rfl⟩ : ∃ p n c, v13 = .slice p n c := by obtain ⟨p, c, e, _⟩ := hk13.1; exact ⟨_, _, _, e⟩
          have HT13 := Hid.mk' (HT12.out.below hb13)
          have HK13 : Hid (MksAt w13 (.slice p13 n13 c13) S.marks) := hk13.1
          have CD := L.doc X s F w13 HT13.out.log
          clear hk13 hb13 CM
          go_wp2_with fail
          refine CD.mono ?_
          rintro e w14 ⟨D14, Fd14, rfl, hd14, _, hb14⟩
          rw [HDS.out] at hd14
          have HT14 := Hid.mk' (HT13.out.below hb14)
          have HK14 := Hid.mk' (HK13.out.below hb14)
          have CM := marks_get D14 S Fd14 w14 hd14
          clear hd14 hb14 CD
          go_wp2_with fail
          refine CM.mono ?_
          rintro e w15 ⟨v15, rfl, hk15, hb15⟩
          obtain ⟨p15, n15, c15, rfl⟩ : ∃ p n c, v15 = .slice p n c := by obtain ⟨p, c, e, _⟩ := hk15.1; exact ⟨_, _, _, e⟩
          have HT15 := Hid.mk' (HT14.out.below hb15)
          have CE := Np.marks_any (.slice p13 n13 c13) (.slice p15 n15 c15) S.marks S.marks w15 (HK14.out.below hb15) hk15.1 (by have := few_marks HSI.out; omega)
          rw [decide_eq_true rfl] at CE
          clear hk15 hb15 CM
          go_wp2_with fail
          refine CE.mono ?_
          rintro e w16 ⟨rfl, hb16⟩
          have HT16 := Hid.mk' (HT15.out.below hb16)
          have CK := known_get D S Fa w16 HT16.out.doc
          clear hb16 CE
          go_wp2_with fail
          refine CK.mono ?_
          rintro e w17 ⟨v17, rfl, hk17, _, hb17⟩
          obtain ⟨p17, c17, rfl, hi17⟩ := hk17
          obtain ⟨ln, hln⟩ : ∃ ln, S.known.length = ln := ⟨_, rfl⟩
          rw [hln]
          have HLN := Hid.mk' hln
          have HT17 := Hid.mk' (HT16.out.below hb17)
          have HK17 := Hid.mk' hi17
          have CD := L.doc X s F w17 HT17.out.log
          clear hi17 hb17 CK hln
          go_wp2_with fail
          refine CD.mono ?_
          rintro e w18 ⟨D18, Fd18, rfl, hd18, _, hb18⟩
          rw [HDS.out] at hd18
          have HT18 := Hid.mk' (HT17.out.below hb18)
          have HK18 := Hid.mk' (HK17.out.below hb18)
          have CK := known_get D18 S Fd18 w18 hd18
          clear hd18 hb18 CD
          go_wp2_with fail
          refine CK.mono ?_
          rintro e w19 ⟨v19, rfl, hk19, _, hb19⟩
          obtain ⟨p19, c19, rfl, hi19⟩ := hk19
          rw [HLN.out]
          have HT19 := Hid.mk' (HT18.out.below hb19)
          have CE := Dg.ints_any p17 p19 ln ln c17 c19 S.known S.known w19 HLN.out HLN.out (by have h9 := HSI.out.klen; have := HLN.out; omega) (HK18.out.below hb19) hi19
          rw [show (S.known == S.known) = true by simp] at CE
          clear hi19 hb19 CK
          go_wp2_with fail
          refine CE.mono ?_
          rintro e w20 ⟨rfl, hb20⟩
          have HT20 := Hid.mk' (HT19.out.below hb20)
          clear hb20 CE
          go_wp2_with fail
          go_ret
          exact ⟨rfl, HT20.out.bel⟩

end Tl
end Go.Proofs.YtadjhmfcggnfoaaGreat
