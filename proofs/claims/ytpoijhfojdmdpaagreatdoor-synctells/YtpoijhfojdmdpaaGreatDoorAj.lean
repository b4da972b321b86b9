/- The walk of SyncTells. -/
import Derived.Test.YtpoijhfojdmdpaaGreatDoorAl
import Derived.Test.YtpoijhfojdmdpaaGreatDoorO1
import Derived.Test.YtpoijhfojdmdpaaGreatDoorR1
import Derived.Test.YtpoijhfojdmdpaaGreatDoorK3
import Derived.Test.YtpoijhfojdmdpaaGreatDoorJ3
import Derived.Deep.DeepCutAuto
import Derived.Deep.RegionHeld3
import Derived.Deep.RegionLaw
namespace Go.Proofs.YtpoijhfojdmdpaaGreatDoor
namespace Aj
set_option linter.unusedVariables false
set_option linter.unusedSimpArgs false
open Go.ChangeShapes Go.WideShapes Go.ChangeAt Go.RowKit Cm Ka Kb Na Om Oa Oz Oc Og Oi Hm Ia Ib Ic Idc Ie If Ig Ih Ii Ij Ik Il Im Um Aa Ac Ae Af Xp Al
open La (bel bel_drew errV_zero errV_ne own_ge own_grow own_below Lies)
open Lj (BookAt BookNew)
open Kt (ET)
open Iq (run)
open Ag (parcS parcel_any open_any OnPost lackE_vec pack_zero)
open Ai (take_ref open_ref RtPost RoPost)
open Ah (lack_ref)
open Ad (pair_any)

theorem below_d (w : World) : Below w.heap.size w w.drew := (Below.refl _ w).drew
theorem err_same (q : Int) (w : World) (hg : ET w) : Calls Tryz.prog 8 #[errV q, .int .i64 q] w fun e w' => e = .returned (.bool true) ∧ Below w.heap.size w w' := by
  refine (Kl.same_any q q w hg).mono ?_
  rintro e w' ⟨rfl, hb⟩
  exact ⟨by rw [beq_self_eq_true], hb⟩
theorem ops_same (v u : Value) (l : List Ox) (w : World) (h1 : OpsAt w v l) (h2 : OpsAt w u l) (hs : Small l) : Calls Tryz.prog 9 #[v, u] w fun e w' => e = .returned (.bool true) ∧ Below w.heap.size w w' := by
  have := Ol.same_ops v u l l w h1 h2 hs.1 hs.2
  rw [decide_eq_true rfl] at this; exact this
/- a list that is lacked is taken by the reference's doc -/
def LkTo (P : Nat → Prop) (W : World) (L : List Ox) (v : Value) (w' : World) : Prop := ∃ p n c, v = .slice p n c ∧ OpsJ (New W.heap.size w') P w' (.slice p n c) L ∧ Below W.heap.size W w'

set_option maxRecDepth 100000 in
set_option maxHeartbeats 16000000 in
theorem walk (vl : Value) (l : List Ox) (vk : Value) (r : List Ox) (vv : Value) (v : List Int) (t : ByteArray) (w : World) (hl : OpsAt w vl l) (hsz : ∀ x ∈ l, x.2.2.1.size ≤ maxLen) (hr : OpsAt w vk r) (hsr : ∀ x ∈ r, x.2.2.1.size ≤ maxLen) (hv : KnAt w vv v) (ht : t.size ≤ maxLen) (hg : ET w) :
    Calls Tryz.prog 3 #[vl, vk, vv, .string t] w fun e w' => e = .returned (.bool true) ∧ Below w.heap.size w w' := by
  have HLA : Hid (OpsAt w vl l) := hl
  have HRA : Hid (OpsAt w vk r) := hr
  have HVA : Hid (KnAt w vv v) := hv
  obtain ⟨ql, cl, rfl, hlin, hlc, hcm, _⟩ := hl
  obtain ⟨qr, nr, cr, rfl⟩ : ∃ p n c, vk = .slice p n c := by obtain ⟨_, _, e, _⟩ := hr; exact ⟨_, _, _, e⟩
  obtain ⟨pv, cv, rfl, hvin⟩ := hv
  obtain ⟨n, hn⟩ : ∃ n, n = l.length := ⟨_, rfl⟩
  obtain ⟨m, hm⟩ : ∃ m, m = v.length := ⟨_, rfl⟩
  have hnm : n ≤ maxLen := by omega
  have hnz : (n : Int) ≤ 9223372036854775807 := by unfold maxLen at hnm; omega
  rw [← hn, ← hm]
  rw [← hn] at HLA
  rw [← hm] at HVA
  have CV : Hid (∀ W, Below w.heap.size w W → Calls Tryz.prog 4 #[.slice pv m cv] W fun e w' => e = .returned (.int .i64 (Dm.vecE v)) ∧ w' = W) := fun W hb => Ra.rvec_any pv m cv v W hm.symm (hvin.below hb)
  have HN : Hid (l.length = n) := hn.symm
  have HLI : Hid (OpsIn w ql l) := hlin
  have HSZ : Hid (∀ x ∈ l, x.2.2.1.size ≤ maxLen) := hsz
  have HSR : Hid (∀ x ∈ r, x.2.2.1.size ≤ maxLen) := hsr
  have HT : Hid (t.size ≤ maxLen) := ht
  have HG : Hid (∀ W, Below w.heap.size w W → ET W) := fun W hb => Kl.ET.below hg hb
  obtain ⟨e0, he0⟩ : ∃ e0, e0 = Dm.vecE v := ⟨_, rfl⟩
  obtain ⟨E, hE⟩ : ∃ E, E = lackE l v := ⟨_, rfl⟩
  have HE0 : Hid (e0 = Dm.vecE v) := he0
  have HE : Hid (E = lackE l v) := hE
  have HEE : Hid (E = if e0 ≠ 0 then e0 else if 400 < n then 4 else firstE l) := by
    unfold Hid; rw [hE, he0, hn]; rfl
  rw [← he0] at CV
  clear hlin hsz hr hsr hvin hn hm ht hg he0 hE hlc hcm
  go_enter Tryz.func3, Tryz.ntmps3
  go_wp2_with fail
  refine (CV.out w (Below.refl _ _)).mono ?_
  rintro e w1 ⟨rfl, rfl⟩
  go_upto_region 2 with fail
  go_cut [43] from 37 to 43 (fun s43 wx => ∃ tt : Bool, s43 = .bool tt ∧ Hid (tt = decide (e0 = 0 ∧ 400 < n)) ∧ w1 = wx)
  case first =>
    by_cases h0 : e0 = 0
    · have hb0 : (e0 == 0) = true := by simpa using h0
      by_cases h4 : 400 < n
      · have h4z : (400 : Int) < n := by omega
        have H9 : Hid (decide (e0 = 0 ∧ 400 < n) = true) := decide_eq_true ⟨h0, h4⟩
        clear h0
        go_wp2_with fail
        go_meet
        case rel => exact ⟨true, rfl, H9.out.symm, rfl⟩
      · have h4z : ¬ (400 : Int) < n := by omega
        have H9 : Hid (decide (e0 = 0 ∧ 400 < n) = false) := decide_eq_false (fun h => h4 h.2)
        clear h0
        go_wp2_with fail
        go_meet
        case rel => exact ⟨false, by first | rfl | (simp; omega), H9.out.symm, rfl⟩
    · have hb0 : (e0 == 0) = false := by simpa using h0
      have H9 : Hid (decide (e0 = 0 ∧ 400 < n) = false) := decide_eq_false (fun h => h0 h.1)
      clear h0
      go_wp2_with fail
      go_meet
      case rel => exact ⟨false, rfl, H9.out.symm, rfl⟩
  case rest =>
  obtain ⟨tt, rfl, HTT0, rfl⟩ := hcut
  go_upto_if 43 with fail
  go_cut [9] from 37 to 43 (fun s9 wx => ∃ e1 : Int, s9 = .int .i64 e1 ∧ Hid (e1 = if e0 ≠ 0 then e0 else if 400 < n then 4 else 0) ∧ w1 = wx)
  case first =>
    cases tt
    · have H9 : Hid (e0 = if e0 ≠ 0 then e0 else if 400 < n then 4 else 0) := by
        have h9 := of_decide_eq_false HTT0.out.symm
        unfold Hid
        by_cases h0 : e0 = 0
        · rw [if_neg (by simpa using h0), if_neg (fun h => h9 ⟨h0, h⟩), h0]
        · rw [if_pos h0]
      go_wp2_with fail
      go_meet
      case rel => exact ⟨e0, rfl, H9, rfl⟩
    · have H9 : Hid (4 = if e0 ≠ 0 then e0 else if 400 < n then 4 else 0) := by
        have h9 := of_decide_eq_true HTT0.out.symm
        unfold Hid; rw [if_neg (by simpa using h9.1), if_pos h9.2]
      go_wp2_with fail
      go_meet
      case rel => exact ⟨4, rfl, H9, rfl⟩
  case rest =>
  obtain ⟨e1, rfl, HE1, rfl⟩ := hcut
  go_wp2_with fail
  go_loopw [9, 10] (fun ve vi wr => ∃ (k : Nat) (e : Int), k ≤ n ∧ vi = .int .i64 k ∧ ve = .int .i64 e ∧ Hid ((e ≠ 0 ∧ e = E) ∨ (e = 0 ∧ e1 = 0 ∧ ∀ o ∈ l.take k, opE o = 0)) ∧ Hid (Below w1.heap.size w1 wr)) (fun _ vi _ => n - (intOf vi).toNat)
  case atStart =>
    refine ⟨0, e1, by omega, rfl, rfl, ?_, Below.refl _ _⟩
    by_cases h : e1 = 0
    · exact Or.inr ⟨h, h, fun o ho => by simp at ho⟩
    · refine Or.inl ⟨h, ?_⟩
      have h1 := HE1.out
      rw [HEE.out]
      by_cases h0 : e0 = 0
      · rw [if_neg (by simpa using h0)] at h1 ⊢
        by_cases h4 : 400 < n
        · rw [if_pos h4] at h1 ⊢; exact h1
        · rw [if_neg h4] at h1; exact absurd h1 h
      · rw [if_pos h0] at h1 ⊢; exact h1
  case round =>
  obtain ⟨k, e, hk, rfl, rfl, HIN, HB⟩ := hrel
  go_upto_region 5 with fail
  go_cut [51] from 44 to 58 (fun s9 wx => ∃ t : Bool, s9 = .bool t ∧ Hid (t = decide (k < n ∧ e = 0)) ∧ wr = wx)
  case first =>
    by_cases h1 : k < n
    · have h1z : (k : Int) < n := by omega
      by_cases h2 : e = 0
      · have h2z : (e == 0) = true := by simpa using h2
        have H2 : Hid (decide (k < n ∧ e = 0) = true) := decide_eq_true ⟨h1, h2⟩
        clear h2
        go_wp2_with fail
        go_meet
        case rel => exact ⟨true, rfl, H2.out.symm, rfl⟩
      · have h2z : (e == 0) = false := by simpa using h2
        have H2 : Hid (decide (k < n ∧ e = 0) = false) := decide_eq_false (fun h => h2 h.2)
        clear h2
        go_wp2_with fail
        go_meet
        case rel => exact ⟨false, rfl, H2.out.symm, rfl⟩
    · have h1z : ¬ (k : Int) < n := by omega
      have H2 : Hid (decide (k < n ∧ e = 0) = false) := decide_eq_false (fun h => h1 h.1)
      go_wp2_with fail
      go_meet
      case rel => exact ⟨false, rfl, H2.out.symm, rfl⟩
  case rest =>
  obtain ⟨tt, rfl, HTT, rfl⟩ := hcut
  cases tt
  case true =>
    obtain ⟨hlt1, he9⟩ := of_decide_eq_true HTT.out.symm
    have hltz : (k : Int) < n := by omega
    have hkl : k < l.length := by rw [HN.out]; exact hlt1
    obtain ⟨bo, oo, rfl, hc⟩ := HLI.out.some (by intro e; rw [e] at hkl; simp at hkl)
    have ha0 := hc k hkl
    have hxm := HSZ.out _ (getO_mem hkl)
    have hin : e1 = 0 ∧ ∀ o ∈ l.take k, opE o = 0 := by
      rcases HIN.out with h | h
      · exact absurd he9 h.1
      · exact h.2
    have hfst := lack_first hkl hin.2
    have htk := Aa.take_next hkl
    obtain ⟨x, hx⟩ : ∃ x, x = l.getD k oz := ⟨_, rfl⟩
    rw [← hx] at ha0 hxm hfst htk
    have HNX : Hid ((opE x ≠ 0 ∧ opE x = E) ∨ (opE x = 0 ∧ e1 = 0 ∧ ∀ o ∈ l.take (k + 1), opE o = 0)) := by
      by_cases h : opE x = 0
      · refine Or.inr ⟨h, hin.1, fun o ho => ?_⟩
        rw [htk] at ho
        rcases List.mem_append.1 ho with ho | ho
        · exact hin.2 o ho
        · rw [List.mem_singleton.1 ho]; exact h
      · refine Or.inl ⟨h, ?_⟩
        rw [HEE.out, ← hfst h]
        have h1 := HE1.out
        rw [hin.1] at h1
        by_cases h0 : e0 = 0
        · rw [if_neg (by simpa using h0)] at h1 ⊢
          by_cases h4 : 400 < n
          · rw [if_pos h4] at h1; cases h1
          · rw [if_neg h4]
        · rw [if_pos h0] at h1; exact absurd h1.symm h0
    obtain ⟨⟨xa, xb⟩, xt, xp, xc, xs⟩ := x
    obtain ⟨vx, ⟨g0, g1, g2, g3, g4, g5⟩, hdx0⟩ := ha0
    simp only at g0 g1 g2 g3 g4 g5 hdx0 hxm
    obtain ⟨px, nx, cx, rfl⟩ : ∃ pv nv cv, vx = .slice pv nv cv := by obtain ⟨_, _, e9, _⟩ := hdx0; exact ⟨_, _, _, e9⟩
    have C := Ob.op_ref xa xb xt xp xc (.slice px nx cx) xs wr hxm (hdx0.below HB.out)
    have a0 := keep_cell HB.out g0
    have a1 := keep_cell HB.out g1
    have a2 := keep_cell HB.out g2
    have a3 := keep_cell HB.out g3
    have a4 := keep_cell HB.out g4
    have a5 := keep_cell HB.out g5
    obtain ⟨ez, hez⟩ : ∃ ez, ez = opE ((xa, xb), xt, xp, xc, xs) := ⟨_, rfl⟩
    rw [← hez] at C HNX
    clear hc hx hkl hxm hdx0 g0 g1 g2 g3 g4 g5 hin hfst htk hez HTT he9
    go_wp2_with fail
    refine C.mono ?_
    rintro e9 w2 ⟨rfl, hb2⟩
    have HB2 : Hid (Below w1.heap.size w1 w2) := bel HB.out hb2
    clear hb2 C a0 a1 a2 a3 a4 a5
    go_wp2_with fail
    go_roundw
    case rel => exact ⟨k + 1, ez, by omega, by go_num, rfl, HNX, HB2⟩
    case measure => simp [intOf]; omega
  case false =>
  have HEQ : Hid (e = E) := by
    have h9 := of_decide_eq_false HTT.out.symm
    rcases HIN.out with h | ⟨h1, h2, h3⟩
    · exact h.2
    · have hkn : k = n := by
        by_cases h : k < n
        · exact absurd ⟨h, h1⟩ h9
        · omega
      rw [hkn, ← HN.out, List.take_length] at h3
      have h4 := HE1.out
      rw [h2] at h4
      unfold Hid
      rw [HEE.out, h1]
      by_cases h0 : e0 = 0
      · rw [if_neg (by simpa using h0)] at h4 ⊢
        by_cases h5 : 400 < n
        · rw [if_pos h5] at h4; cases h4
        · rw [if_neg h5]; exact (firstE_zero.2 h3).symm
      · rw [if_pos h0] at h4; exact absurd h4.symm h0
  obtain ⟨w2, rfl⟩ : ∃ w2, w2 = wr := ⟨_, rfl⟩
  have heq := HEQ.out
  subst heq
  clear HEQ HIN HTT HE1 HEE HLI
  -- what is lacked
  have HOJ : Hid (∀ W, Below w1.heap.size w1 W → OpsJ (fun g => g < w1.heap.size) (fun g => g < w1.heap.size) W (.slice ql n cl) l) := fun W hb => (OpsJ.old HLA.out).below hb
  go_upto_if 60 with fail
  go_cut [11] from 59 to 63 (fun s11 wx => ∃ p n c, s11 = .slice p n c ∧ Hid (OpsAt wx (.slice p n c) (outL e (lackL l v))) ∧ Hid (Below w1.heap.size w1 wx))
  case first =>
    by_cases h0 : e = 0
    · have hb0 : (e == 0) = true := by simpa using h0
      have hz := HE.out
      rw [h0] at hz
      obtain ⟨z1, z2, z3⟩ := lack_zero hz.symm
      have HOL : Hid (outL e (lackL l v) = lackL l v) := by unfold Hid outL; rw [if_pos h0]
      have C := lack_ref _ _ (.slice ql n cl) (.slice pv m cv) l v w2 (HOJ.out w2 HB.out) (fun g hg => Nat.lt_of_lt_of_le hg HB.out.size) (HVA.out.below HB.out) z1 z3 z2
      clear h0 hz z1 z2 z3
      go_wp2_with fail
      refine C.mono ?_
      rintro e9 w3 ⟨p3, n3, c3, rfl, ho3, hb3⟩
      have HO3 : Hid (OpsAt w3 (.slice p3 n3 c3) (outL e (lackL l v))) := by unfold Hid; rw [HOL.out]; exact ho3.at
      have HB3 : Hid (Below w1.heap.size w1 w3) := bel HB.out hb3
      clear ho3 hb3 C
      go_wp2_with fail
      go_meet
      case rel => exact ⟨p3, n3, c3, rfl, HO3, HB3⟩
    · have hb0 : (e == 0) = false := by simpa using h0
      have HOL : Hid (outL e (lackL l v) = []) := by unfold Hid outL; rw [if_neg h0]
      clear h0
      go_wp2_with fail
      go_meet
      case rel => exact ⟨none, 0, 0, rfl, by unfold Hid; rw [HOL.out]; exact OpsAt.nil _, HB⟩
  case rest =>
  obtain ⟨p3, n3, c3, rfl, HO3, HB3⟩ := hcut
  clear HB HOJ
  have CL := lacks_any (.slice ql n cl) (.slice pv m cv) l v wc (HLA.out.below HB3.out) HSZ.out (HVA.out.below HB3.out)
  go_wp2_with fail
  refine CL.mono ?_
  rintro e9 w4 ⟨p4, n4, c4, he, ho4, hb4⟩
  rw [← HE.out] at he ho4
  have HO4 : Hid (OpsAt w4 (.slice p4 n4 c4) (outL e (lackL l v)) ∧ OpsAt w4 (.slice p3 n3 c3) (outL e (lackL l v))) := ⟨ho4.at, HO3.out.below hb4⟩
  have HB4 : Hid (Below w1.heap.size w1 w4) := bel HB3.out hb4
  have HSM : Hid (Small (outL e (lackL l v))) := by unfold Hid; rw [HE.out]; exact lack_small l v
  obtain ⟨ev, hev⟩ : ∃ ev, ev = errV e := ⟨_, rfl⟩
  have CE := err_same e w4 (HG.out w4 HB4.out)
  rw [← hev] at he CE
  subst he
  clear CL ho4 hb4 hev HO3 HB3
  go_wp2_with fail
  refine CE.mono ?_
  rintro e9 w5 ⟨rfl, hb5⟩
  have HB5 : Hid (Below w1.heap.size w1 w5) := bel HB4.out hb5
  have CO := ops_same _ _ _ w5 (HO4.out.1.below hb5) (HO4.out.2.below hb5) HSM.out
  clear CE hb5 HO4 HB4 HSM
  go_wp2_with fail
  refine CO.mono ?_
  rintro e9 w6 ⟨rfl, hb6⟩
  have HB6 : Hid (Below w1.heap.size w1 w6) := bel HB5.out hb6
  clear CO hb6 HB5
  -- two docs, and the reference's
  have CP := pair_any (.slice ql n cl) l w1 w6 HLA.out HB6.out HSZ.out (HG.out w6 HB6.out)
  go_wp2_with fail
  refine CP.mono ?_
  rintro e9 w7 ⟨D1, E1, Fa, Fb, rfl, hd, he, hfa, hfb, hx, hb⟩
  obtain ⟨S, hS⟩ : ∃ S, S = run l (min l.length 60) := ⟨_, rfl⟩
  rw [← hS] at hd he
  have HD1 : Hid (DocAt w7 D1 S Fa) := hd
  have HR1 : Hid (RefAt (fun g => g < w1.heap.size) w7 E1 S Fb) := he
  have HFA : Hid (∀ g, Fa g → w6.heap.size ≤ g) := hfa
  have HFX : Hid (∀ g, Fb g → ¬ Fa g) := hx
  have HB7 : Hid (Below w1.heap.size w1 w7) := bel HB6.out hb
  have CP2 := pair_any (.slice qr nr cr) r w1 w7 HRA.out HB7.out HSR.out (HG.out w7 HB7.out)
  clear CP hd he hfa hfb hx hb hS HLA
  go_wp2_with fail
  refine CP2.mono ?_
  rintro e9 w8 ⟨D2, E2, Fc, Fd, rfl, hd, he, hfc, hfd, hx, hb⟩
  obtain ⟨T, hT⟩ : ∃ T, T = run r (min r.length 60) := ⟨_, rfl⟩
  rw [← hT] at hd he
  have HB8 : Hid (Below w1.heap.size w1 w8) := bel HB7.out hb
  have HF : Hid (Four (fun g => g < w1.heap.size) w8 D1 E1 D2 E2 S S T T Fa Fb Fc Fd) := by
    have h1 := HD1.out.lt
    have h2 := fun g hg => (HR1.out.lt g hg).2
    refine ⟨HD1.out.below hb, HR1.out.below hb, hd, he, fun g a b => HFX.out g b a, fun g a b => ?_, fun g a b => ?_, fun g a b => ?_, fun g a b => ?_, fun g a b => hx g b a, fun g a b => ?_, fun g a b => ?_⟩
    · have := h1 g a; have := hfc g b; omega
    · have := h1 g a; have := hfd g b; omega
    · have := h2 g a; have := hfc g b; omega
    · have := h2 g a; have := hfd g b; omega
    · have b' : g < w1.heap.size := b
      have := HFA.out g a; have := HB6.out.size; omega
    · have b' : g < w1.heap.size := b
      have := hfc g a; have := HB7.out.size; omega
  have HIS : Hid (Inv S) := HD1.out.inv
  have HIT : Hid (Inv T) := hd.inv
  have HFL : Hid (∀ g, Fa g ∨ Fb g ∨ Fc g ∨ Fd g → w1.heap.size ≤ g) := fun g hg => by
    rcases hg with e | e | e | e
    · have := HFA.out g e; have := HB6.out.size; omega
    · exact Nat.not_lt.1 (HR1.out.lt g e).1
    · have := hfc g e; have := HB7.out.size; omega
    · exact Nat.not_lt.1 (he.lt g e).1
  clear CP2 hd he hfc hfd hx hb hT HRA HD1 HR1 HFA HFX HB7 HB6
  go_wp2_with fail
  refine (CV.out w8 HB8.out).mono ?_
  rintro e9 w9 ⟨rfl, hw9⟩
  subst hw9
  -- a parcel
  obtain ⟨pb1, nb1, cb1, gk1, po1, no1, co1, hps⟩ := parts HF.out.e1
  have HP1 : Hid (Parts (fun g => g < w1.heap.size) w9 E1 S pb1 nb1 cb1 gk1 po1 no1 co1) := hps
  clear hps
  have x3 := HP1.out.c3 w9 (Below.refl _ _)
  go_upto_if 97 with fail
  go_cut [22] from 96 to 104 (fun s22 wx => s22 = .string (parcS S v) ∧ Hid (Below w9.heap.size w9 wx))
  case first =>
    by_cases h0 : e0 = 0
    · have hb0 : (e0 == 0) = true := by simpa using h0
      have hz : Dm.vecE v = 0 := by rw [← HE0.out, h0]
      have HPS : Hid (parcS S v = ⟨(packB (lackL S.ops v)).toArray⟩) := by
        unfold Hid parcS Ov.packS
        rw [hz, if_neg (by decide), if_pos (pack_zero HIS.out v)]
      have C := lack_ref _ _ (.slice po1 no1 co1) (.slice pv m cv) S.ops v w9 (HP1.out.ops w9 (Below.refl _ _)) (fun g hg => Nat.lt_of_lt_of_le hg HB8.out.size) (HVA.out.below HB8.out) (Dm.vecE_zero.1 hz).1 (who_doc HIS.out) HIS.out.few
      clear h0 hz
      go_wp2_with fail
      refine C.mono ?_
      rintro e9 w10 ⟨p9, n9, c9, rfl, ho9, hb9⟩
      have HB10 : Hid (Below w9.heap.size w9 w10) := hb9
      have C2 := Oj.pack_ref (.slice p9 n9 c9) (lackL S.ops v) w10 ho9.at (fun o ho => HIS.out.right o (lack_mem ho)) (Nat.le_trans (lack_len _ _) HIS.out.few)
      rw [← HPS.out] at C2
      clear ho9 hb9 C
      go_wp2_with fail
      refine C2.mono ?_
      rintro e9 w11 ⟨rfl, hb11⟩
      have HB11 : Hid (Below w9.heap.size w9 w11) := bel HB10.out hb11
      clear C2 hb11
      go_wp2_with fail
      go_meet
      case rel => exact ⟨rfl, HB11⟩
    · have hb0 : (e0 == 0) = false := by simpa using h0
      have HPS : Hid (parcS S v = ⟨#[]⟩) := by unfold Hid parcS; rw [← HE0.out, if_pos h0]
      clear h0
      go_wp2_with fail
      go_meet
      case rel => exact ⟨by rw [HPS.out], Below.refl _ _⟩
  case rest =>
  obtain ⟨rfl, HBc⟩ := hcut
  have HF9 : Hid (Four (fun g => g < w1.heap.size) wc D1 E1 D2 E2 S S T T Fa Fb Fc Fd) := HF.out.below HBc.out
  have HB9 : Hid (Below w1.heap.size w1 wc) := bel HB8.out HBc.out
  have CQ := parcel_any D1 S Fa (.slice pv m cv) v wc HF9.out.d1 (HVA.out.below HB9.out)
  rw [← HE0.out] at CQ
  obtain ⟨PS, hPS⟩ : ∃ PS, PS = parcS S v := ⟨_, rfl⟩
  obtain ⟨ev0, hev0⟩ : ∃ ev0, ev0 = errV e0 := ⟨_, rfl⟩
  have CE0 : Hid (∀ W, Below w1.heap.size w1 W → Calls Tryz.prog 8 #[ev0, .int .i64 e0] W fun e w' => e = .returned (.bool true) ∧ Below W.heap.size W w') := fun W hb => by rw [hev0]; exact err_same e0 W (HG.out W hb)
  rw [← hPS, ← hev0] at CQ
  rw [← hPS]
  clear hPS hev0 HP1 x3 HBc HF HB8
  go_wp2_with fail
  refine CQ.mono ?_
  rintro e9 w10 ⟨rfl, hb10⟩
  have HB10 : Hid (Below w1.heap.size w1 w10) := bel HB9.out hb10
  have HF10 : Hid (Four (fun g => g < w1.heap.size) w10 D1 E1 D2 E2 S S T T Fa Fb Fc Fd) := HF9.out.below hb10
  clear CQ hb10 HF9 HB9
  go_wp2_with fail
  refine (CE0.out w10 HB10.out).mono ?_
  rintro e9 w11 ⟨rfl, hb11⟩
  have HB11 : Hid (Below w1.heap.size w1 w11) := bel HB10.out hb11
  have HF11 : Hid (Four (fun g => g < w1.heap.size) w11 D1 E1 D2 E2 S S T T Fa Fb Fc Fd) := HF10.out.below hb11
  clear hb11 HF10 HB10 CE0 HE0 HE CV HVA
  -- the second one takes what it lacks
  obtain ⟨pb1, nb1, cb1, gk1, po1, no1, co1, hps⟩ := parts HF11.out.e1
  have HP1 : Hid (Parts (fun g => g < w1.heap.size) w11 E1 S pb1 nb1 cb1 gk1 po1 no1 co1) := hps
  obtain ⟨pb2, nb2, cb2, gk2, po2, no2, co2, hps2⟩ := parts HF11.out.e2
  have HP2 : Hid (Parts (fun g => g < w1.heap.size) w11 E2 T pb2 nb2 cb2 gk2 po2 no2 co2) := hps2
  clear hps hps2
  have x3 := HP1.out.c3 w11 (Below.refl _ _)
  have x2 := HP2.out.c2 w11 (Below.refl _ _)
  obtain ⟨L1, hL1⟩ : ∃ L1, L1 = lackL S.ops T.known := ⟨_, rfl⟩
  have HL1 : Hid (L1 = lackL S.ops T.known) := hL1
  have CL1 : Hid (Calls Tryz.prog 6 #[.slice po1 no1 co1, .slice (some ⟨gk2, 0, none⟩) 8 8] w11.drew fun e w' => ∃ v, e = .returned v ∧ LkTo (fun g => g < w1.heap.size) w11.drew L1 v w') :=
    (lack_ref _ _ (.slice po1 no1 co1) _ S.ops T.known w11.drew (HP1.out.ops _ (below_d w11)) (fun g hg => Nat.lt_of_lt_of_le hg HB11.out.size) (HP2.out.known _ (below_d w11)) HIT.out.klen (who_doc HIS.out) HIS.out.few).mono (by
      rintro e w' ⟨p, n, c, h1, h2, h3⟩
      exact ⟨_, h1, p, n, c, rfl, by rw [hL1]; exact h2, h3⟩)
  have CT1 : Hid (∀ (p : Option Addr) (n c : Nat) (W : World), OpsJ (New w11.drew.heap.size W) (fun g => g < w1.heap.size) W (.slice p n c) L1 → Below w11.drew.heap.size w11.drew W → Calls Tryz.prog 13 #[.pointer (some ⟨E2, 0, none⟩), .slice p n c] W fun e w' => ∃ v, e = .returned v ∧ (v = .tuple #[.int .i64 (takeN T L1), .int .i64 (b1E S T)] ∧ ∃ F', RefAt (fun g => g < w1.heap.size) w' E2 (b1S S T) F' ∧ Chg Fd W w' ∧ ∀ g, F' g → Fd g ∨ W.heap.size ≤ g)) := fun p n c W ho hb => by
    have hbb : Below w11.heap.size w11 W := bel (below_d w11) hb
    refine (take_ref _ E2 T Fd _ _ L1 W (HF11.out.e2.below hbb) ho (fun g hg => ⟨hg.2, fun e9 => by have := (HF11.out.e2.lt g e9).2; have h8 : w11.heap.size ≤ g := hg.1; omega⟩) (fun x hx => right_len HIS.out.right x (lack_mem (by rw [← hL1]; exact hx)))).mono ?_
    rintro e w' ⟨h1, F', h2, h3, h4⟩
    exact ⟨_, h1, by unfold b1E; rw [hL1], F', by unfold b1S; rw [← hL1]; exact h2, h3, h4⟩
  clear hL1
  obtain ⟨b1, hb1⟩ : ∃ b1, b1 = b1E S T := ⟨_, rfl⟩
  have HB1E : Hid (b1 = b1E S T) := hb1
  rw [← hb1] at CT1
  obtain ⟨n1, hn1⟩ : ∃ n1, n1 = takeN T L1 := ⟨_, rfl⟩
  have HN1 : Hid (n1 = takeN T (lackL S.ops T.known)) := by unfold Hid; rw [hn1, HL1.out]
  rw [← hn1] at CT1
  clear hb1 hn1
  go_upto_region 24 with fail
  go_cut [9, 25] from 114 to 127 (fun s9 s25 wx => ∃ F', s9 = .int .i64 b1 ∧ s25 = .int .i64 n1 ∧ Hid (Four (fun g => g < w1.heap.size) wx D1 E1 D2 E2 S S T (b1S S T) Fa Fb Fc F') ∧ Hid (∀ g, F' g → w1.heap.size ≤ g) ∧ Hid (Below w1.heap.size w1 wx))
  case first =>
    go_wp2_with fail
    go_region_law (first
      | (refine step_call2 (R := LkTo (fun g => g < w1.heap.size) w11.drew L1) (by rfl) 6 (.tmp 119) (.tmp 123) _ _ (by rfl) _ _ (by rfl) (by rfl) enter_lacks CL1.out ?_; rintro v3 w12 ⟨p12, n12, c12, rfl, ho12, hb12⟩)
      | (refine step_call2 (R := fun v w' => v = .tuple #[.int .i64 n1, .int .i64 b1] ∧ ∃ F', RefAt (fun g => g < w1.heap.size) w' E2 (b1S S T) F' ∧ Chg Fd w12 w' ∧ ∀ g, F' g → Fd g ∨ w12.heap.size ≤ g) (by rfl) 13 (.tmp 115) (.tmp 124) _ _ (by rfl) _ _ (by rfl) (by rfl) enter_take (CT1.out p12 n12 c12 w12 ho12 hb12) ?_; rintro v4 w13 ⟨rfl, F13, hd13, hc13, hf13⟩; have HF13 : Hid (Four (fun g => g < w1.heap.size) w13 D1 E1 D2 E2 S S T (b1S S T) Fa Fb Fc F13) := (HF11.out.below (bel (below_d w11) hb12)).set_e2 hc13 hd13 hf13; have HB12 : Hid (Below w1.heap.size w1 w12) := bel HB11.out (bel (below_d w11) hb12); have HB13 : Hid (Below w1.heap.size w1 w13) := hc13.below (fun g hg => HFL.out g (Or.inr (Or.inr (Or.inr hg)))) HB12.out HB12.out.size; have HL13 : Hid (∀ g, F13 g → w1.heap.size ≤ g) := (fun g hg => by rcases hf13 g hg with e | e; (exact HFL.out g (Or.inr (Or.inr (Or.inr e)))); (exact Nat.le_trans HB12.out.size e)); clear hd13 hc13 hf13 ho12 hb12))
    all_goals
      go_wp2_with fail
      go_meet
      case rel => exact ⟨F13, rfl, rfl, HF13, HL13, HB13⟩
  case rest =>
  obtain ⟨Fe, rfl, rfl, HF13, HL13, HB13⟩ := hcut
  have HFL2 : Hid (∀ g, Fa g ∨ Fb g ∨ Fc g ∨ Fe g → w1.heap.size ≤ g) := fun g hg => by
    rcases hg with e | e | e | e
    · exact HFL.out g (Or.inl e)
    · exact HFL.out g (Or.inr (Or.inl e))
    · exact HFL.out g (Or.inr (Or.inr (Or.inl e)))
    · exact HL13.out g e
  obtain ⟨w13, rfl⟩ : ∃ w13, w13 = wc := ⟨_, rfl⟩
  clear CL1 CT1 HP1 HP2 x3 x2 HF11 HB11 HFL HL13
  -- the first one takes what it lacks
  obtain ⟨pb1, nb1, cb1, gk1, po1, no1, co1, hps⟩ := parts HF13.out.e1
  have HP1 : Hid (Parts (fun g => g < w1.heap.size) w13 E1 S pb1 nb1 cb1 gk1 po1 no1 co1) := hps
  obtain ⟨pb2, nb2, cb2, gk2, po2, no2, co2, hps2⟩ := parts HF13.out.e2
  have HP2 : Hid (Parts (fun g => g < w1.heap.size) w13 E2 (b1S S T) pb2 nb2 cb2 gk2 po2 no2 co2) := hps2
  have HIU : Hid (Inv (b1S S T)) := HF13.out.e2.inv
  clear hps hps2
  have x2 := HP1.out.c2 w13 (Below.refl _ _)
  have x3 := HP2.out.c3 w13 (Below.refl _ _)
  obtain ⟨L2, hL2⟩ : ∃ L2, L2 = lackL (b1S S T).ops S.known := ⟨_, rfl⟩
  have CL1 : Hid (Calls Tryz.prog 6 #[.slice po2 no2 co2, .slice (some ⟨gk1, 0, none⟩) 8 8] w13.drew fun e w' => ∃ v, e = .returned v ∧ LkTo (fun g => g < w1.heap.size) w13.drew L2 v w') :=
    (lack_ref _ _ (.slice po2 no2 co2) _ (b1S S T).ops S.known w13.drew (HP2.out.ops _ (below_d w13)) (fun g hg => Nat.lt_of_lt_of_le hg HB13.out.size) (HP1.out.known _ (below_d w13)) HIS.out.klen (who_doc HIU.out) HIU.out.few).mono (by
      rintro e w' ⟨p, n, c, h1, h2, h3⟩
      exact ⟨_, h1, p, n, c, rfl, by rw [hL2]; exact h2, h3⟩)
  have CT1 : Hid (∀ (p : Option Addr) (n c : Nat) (W : World), OpsJ (New w13.drew.heap.size W) (fun g => g < w1.heap.size) W (.slice p n c) L2 → Below w13.drew.heap.size w13.drew W → Calls Tryz.prog 13 #[.pointer (some ⟨E1, 0, none⟩), .slice p n c] W fun e w' => ∃ v, e = .returned v ∧ (v = .tuple #[.int .i64 (takeN S L2), .int .i64 (b1E (b1S S T) S)] ∧ ∃ F', RefAt (fun g => g < w1.heap.size) w' E1 (b1S (b1S S T) S) F' ∧ Chg Fb W w' ∧ ∀ g, F' g → Fb g ∨ W.heap.size ≤ g)) := fun p n c W ho hb => by
    have hbb : Below w13.heap.size w13 W := bel (below_d w13) hb
    refine (take_ref _ E1 S Fb _ _ L2 W (HF13.out.e1.below hbb) ho (fun g hg => ⟨hg.2, fun e9 => by have := (HF13.out.e1.lt g e9).2; have h8 : w13.heap.size ≤ g := hg.1; omega⟩) (fun x hx => right_len HIU.out.right x (lack_mem (by rw [← hL2]; exact hx)))).mono ?_
    rintro e w' ⟨h1, F', h2, h3, h4⟩
    exact ⟨_, h1, by unfold b1E; rw [hL2], F', by show RefAt _ w' E1 (runS S (lackL (b1S S T).ops S.known)) F'; rw [← hL2]; exact h2, h3, h4⟩
  obtain ⟨b2, hb2⟩ : ∃ b2, b2 = b1E (b1S S T) S := ⟨_, rfl⟩
  have HB2E : Hid (b2 = b1E (b1S S T) S) := hb2
  rw [← hb2] at CT1
  obtain ⟨n2, hn2⟩ : ∃ n2, n2 = takeN S L2 := ⟨_, rfl⟩
  have HN2 : Hid (n2 = takeN S (lackL (b1S S T).ops S.known)) := by unfold Hid; rw [hn2, hL2]
  rw [← hn2] at CT1
  clear hb2 hn2 hL2
  obtain ⟨BE, hBE⟩ : ∃ BE, BE = botE S T := ⟨_, rfl⟩
  have HBE : Hid (BE = if b1 ≠ 0 then b1 else b2) := by unfold Hid; rw [hBE, HB1E.out, HB2E.out]; rfl
  have HBA : Hid (botA S T = if b1 ≠ 0 then S else b1S (b1S S T) S) := by unfold Hid; rw [HB1E.out]; rfl
  have HBN : Hid (BE = 0 → n1 = botN S T ∧ n2 = botM S T) := fun h => by
    have hb : botE S T = 0 := by rw [← hBE]; exact h
    have h1 : b1E S T = 0 := by
      by_cases e : b1E S T = 0
      · exact e
      · unfold botE at hb; rw [if_pos e] at hb; exact hb
    have h2 : b1E (b1S S T) S = 0 := by unfold botE at hb; rw [h1, if_neg (by decide)] at hb; exact hb
    constructor
    · unfold botN; rw [hb, if_neg (by decide), HN1.out]
      unfold takeN b1N; unfold b1E at h1; rw [h1, if_neg (by decide)]
    · unfold botM; rw [hb, if_neg (by decide), HN2.out]
      unfold takeN b1N; unfold b1E at h2; rw [h2, if_neg (by decide)]
  have HBZ : Hid (BE ≠ 0 → botN S T = 0 ∧ botM S T = 0) := fun h => by
    have hb : botE S T ≠ 0 := by rw [← hBE]; exact h
    exact ⟨by unfold botN; rw [if_pos hb], by unfold botM; rw [if_pos hb]⟩
  have HBQ : Hid (BE = botE S T) := hBE
  clear hBE
  go_upto_if 129 with fail
  go_cut [9, 26] from 128 to 143 (fun s9 s26 wx => ∃ (y : Int) (F' : Nat → Prop), s9 = .int .i64 BE ∧ s26 = .int .i64 y ∧ Hid (BE = 0 → y = n2) ∧ Hid (Four (fun g => g < w1.heap.size) wx D1 E1 D2 E2 S (botA S T) T (b1S S T) Fa F' Fc Fe) ∧ Hid (∀ g, F' g → w1.heap.size ≤ g) ∧ Hid (Below w1.heap.size w1 wx))
  case first =>
    by_cases h0 : b1 = 0
    · have hb0 : (b1 == 0) = true := by simpa using h0
      have HBE2 : Hid (BE = b2) := by unfold Hid; rw [HBE.out, if_neg (by simpa using h0)]
      have HBA2 : Hid (botA S T = b1S (b1S S T) S) := by unfold Hid; rw [HBA.out, if_neg (by simpa using h0)]
      clear h0
      go_wp2_with fail
      go_region_law (first
        | (refine step_call2 (R := LkTo (fun g => g < w1.heap.size) w13.drew L2) (by rfl) 6 (.tmp 135) (.tmp 139) _ _ (by rfl) _ _ (by rfl) (by rfl) enter_lacks CL1.out ?_; rintro v3 w12 ⟨p12, n12, c12, rfl, ho12, hb12⟩)
        | (refine step_call2 (R := fun v w' => v = .tuple #[.int .i64 n2, .int .i64 b2] ∧ ∃ F', RefAt (fun g => g < w1.heap.size) w' E1 (b1S (b1S S T) S) F' ∧ Chg Fb w12 w' ∧ ∀ g, F' g → Fb g ∨ w12.heap.size ≤ g) (by rfl) 13 (.tmp 131) (.tmp 140) _ _ (by rfl) _ _ (by rfl) (by rfl) enter_take (CT1.out p12 n12 c12 w12 ho12 hb12) ?_; rintro v4 w14 ⟨rfl, F14, hd14, hc14, hf14⟩; have HF14 : Hid (Four (fun g => g < w1.heap.size) w14 D1 E1 D2 E2 S (botA S T) T (b1S S T) Fa F14 Fc Fe) := (by unfold Hid; rw [HBA2.out]; exact (HF13.out.below (bel (below_d w13) hb12)).set_e1 hc14 hd14 hf14); have HB12 : Hid (Below w1.heap.size w1 w12) := bel HB13.out (bel (below_d w13) hb12); have HB14 : Hid (Below w1.heap.size w1 w14) := hc14.below (fun g hg => HFL2.out g (Or.inr (Or.inl hg))) HB12.out HB12.out.size; have HL14 : Hid (∀ g, F14 g → w1.heap.size ≤ g) := (fun g hg => by rcases hf14 g hg with e | e; (exact HFL2.out g (Or.inr (Or.inl e))); (exact Nat.le_trans HB12.out.size e)); clear hd14 hc14 hf14 ho12 hb12))
      all_goals
        go_wp2_with fail
        go_meet
        case rel => exact ⟨n2, F14, by rw [HBE2.out], rfl, fun _ => rfl, HF14, HL14, HB14⟩
    · have hb0 : (b1 == 0) = false := by simpa using h0
      have HBE2 : Hid (BE = b1) := by unfold Hid; rw [HBE.out, if_pos h0]
      have HBA2 : Hid (botA S T = S) := by unfold Hid; rw [HBA.out, if_pos h0]
      have HZ : Hid (b1 ≠ 0) := h0
      clear h0
      go_wp2_with fail
      go_meet
      case rel => exact ⟨0, Fb, by rw [HBE2.out], rfl, fun h => absurd (HBE2.out ▸ h) HZ.out, by unfold Hid; rw [HBA2.out]; exact HF13.out, fun g hg => HFL2.out g (Or.inr (Or.inl hg)), HB13⟩
  case rest =>
  obtain ⟨y, Fg, rfl, rfl, HY, HF14, HL14, HB14⟩ := hcut
  obtain ⟨w14, rfl⟩ : ∃ w14, w14 = wc := ⟨_, rfl⟩
  have HFL3 : Hid (∀ g, Fa g ∨ Fg g ∨ Fc g ∨ Fe g → w1.heap.size ≤ g) := fun g hg => by
    rcases hg with e | e | e | e
    · exact HFL2.out g (Or.inl e)
    · exact HL14.out g e
    · exact HFL2.out g (Or.inr (Or.inr (Or.inl e)))
    · exact HFL2.out g (Or.inr (Or.inr (Or.inr e)))
  clear CL1 CT1 HP1 HP2 x3 x2 HF13 HB13 HFL2 HL14
  go_upto_if 145 with fail
  go_cut [25, 26] from 144 to 145 (fun s25 s26 wx => s25 = .int .i64 (botN S T) ∧ s26 = .int .i64 (botM S T) ∧ w14 = wx)
  case first =>
    by_cases h0 : BE = 0
    · have hb0 : (BE != 0) = false := by simpa using h0
      obtain ⟨z1, z2⟩ := HBN.out h0
      have z3 := HY.out h0
      have HZ1 : Hid (n1 = botN S T) := z1
      have HZ2 : Hid (y = botM S T) := z3.trans z2
      clear h0 z1 z2 z3
      go_wp2_with fail
      go_meet
      case rel => exact ⟨by rw [← HZ1.out], by rw [← HZ2.out], rfl⟩
    · have hb0 : (BE != 0) = true := by simpa using h0
      obtain ⟨z1, z2⟩ := HBZ.out h0
      have HZ1 : Hid (botN S T = 0) := z1
      have HZ2 : Hid (botM S T = 0) := z2
      clear h0 z1 z2
      go_wp2_with fail
      go_meet
      case rel => exact ⟨by rw [HZ1.out], by rw [HZ2.out], rfl⟩
  case rest =>
  obtain ⟨rfl, rfl, hw14⟩ := hcut
  subst hw14
  -- both
  have CB := both_any D1 D2 S T Fa Fc w14 HF14.out.d1 HF14.out.d2 HF14.out.ac
  obtain ⟨N9, hN9⟩ : ∃ N9, N9 = botN S T := ⟨_, rfl⟩
  obtain ⟨M9, hM9⟩ : ∃ M9, M9 = botM S T := ⟨_, rfl⟩
  have HNM : Hid (N9 = botN S T ∧ M9 = botM S T) := ⟨hN9, hM9⟩
  rw [← hN9, ← hM9]
  clear hN9 hM9 HY HBN HBZ HBE HBA HN1 HN2 HB1E HB2E HL1
  go_wp2_with fail
  refine CB.mono ?_
  rintro e9 w15 ⟨he, Ga, Gc, hd1, hd2, hc, hg1, hg2, hgx⟩
  have HF15 : Hid (Four (fun g => g < w1.heap.size) w15 D1 E1 D2 E2 (botA S T) (botA S T) (b1S S T) (b1S S T) Ga Fg Gc Fe) := HF14.out.set_dd hc hd1 hd2 hg1 hg2 hgx
  have HB15 : Hid (Below w1.heap.size w1 w15) := hc.below (fun g hg => by rcases hg with e | e; exact HFL3.out g (Or.inl e); exact HFL3.out g (Or.inr (Or.inr (Or.inl e)))) HB14.out HB14.out.size
  have HFL4 : Hid (∀ g, Ga g ∨ Fg g ∨ Gc g ∨ Fe g → w1.heap.size ≤ g) := fun g hg => by
    rcases hg with e | e | e | e
    · rcases hg1 g e with e | e
      · exact HFL3.out g (Or.inl e)
      · exact Nat.le_trans HB14.out.size e
    · exact HFL3.out g (Or.inr (Or.inl e))
    · rcases hg2 g e with e | e
      · exact HFL3.out g (Or.inr (Or.inr (Or.inl e)))
      · exact Nat.le_trans HB14.out.size e
    · exact HFL3.out g (Or.inr (Or.inr (Or.inr e)))
  obtain ⟨ev, hev⟩ : ∃ ev, ev = errV BE := ⟨_, rfl⟩
  have CE := err_same BE w15 (HG.out w15 HB15.out)
  rw [← HNM.out.1, ← HNM.out.2, ← HBQ.out, ← hev] at he
  rw [← hev] at CE
  subst he
  obtain ⟨U, hU⟩ : ∃ U, U = botA S T := ⟨_, rfl⟩
  obtain ⟨V, hV⟩ : ∃ V, V = b1S S T := ⟨_, rfl⟩
  rw [← hU, ← hV] at HF15
  clear CB hd1 hd2 hc hg1 hg2 hgx hev HF14 HB14 HFL3 hU hV HBQ HNM HIS HIT HIU
  go_wp2_with fail
  refine CE.mono ?_
  rintro e9 w16 ⟨rfl, hb16⟩
  have HF16 : Hid (Four (fun g => g < w1.heap.size) w16 D1 E1 D2 E2 U U V V Ga Fg Gc Fe) := HF15.out.below hb16
  have HB16 : Hid (Below w1.heap.size w1 w16) := bel HB15.out hb16
  clear CE hb16 HF15 HB15
  -- a parcel is opened
  have CO := open_ref _ E1 U Fg t w16 HF16.out.e1 HT.out
  go_wp2_with fail
  refine CO.mono ?_
  rintro e9 w17 ⟨he, P', Fh, hd17, hc17, hf17⟩
  obtain ⟨nn, hnn⟩ : ∃ nn, nn = opnN U t := ⟨_, rfl⟩
  obtain ⟨ee, hee⟩ : ∃ ee, ee = opnE U t := ⟨_, rfl⟩
  have HNN : Hid (nn = opnN U t ∧ ee = opnE U t) := ⟨hnn, hee⟩
  rw [← hnn, ← hee] at he
  subst he
  have HB17 : Hid (Below w1.heap.size w1 w17) := hc17.below (fun g hg => HFL4.out g (Or.inr (Or.inl hg))) HB16.out HB16.out.size
  have HD17 : Hid (DocAt w17 D1 U Ga) := HF16.out.d1.chg hc17 HF16.out.ab
  have HC17 : Hid (DocAt w17 D2 V Gc) := HF16.out.d2.chg hc17 (fun g a b => HF16.out.bc g b a)
  obtain ⟨pb1, nb1, cb1, hk1⟩ := book_at hd17
  obtain ⟨pb2, nb2, cb2, hk2⟩ := book_at HF16.out.e2
  have HK1 : Hid (∀ W : World, Stay Fh w17 W → W.cell? ⟨E1, 0, none⟩ = some (.slice pb1 nb1 cb1) ∧ BookAt W (.slice pb1 nb1 cb1) (runS U (opnL t)).book) := hk1
  have HK2 : Hid (∀ W : World, Stay Fe w16 W → W.cell? ⟨E2, 0, none⟩ = some (.slice pb2 nb2 cb2) ∧ BookAt W (.slice pb2 nb2 cb2) V.book) := hk2
  have HS17 : Hid (Stay Fe w16 w17) := hc17.stay fun g hg => ⟨(HF16.out.e2.lt g hg).2, fun e => HF16.out.bd g e hg⟩
  have HHA : Hid (∀ g, Fh g → ¬ Ga g) := grow_off hf17 HF16.out.d1.lt (fun g a b => HF16.out.ab g b a)
  have HHL : Hid (∀ g, Fh g → g < w17.heap.size) := fun g hg => (hd17.lt g hg).2
  have HEL : Hid (∀ g, Fe g → g < w17.heap.size ∧ ¬ Ga g) := fun g hg => ⟨Nat.lt_of_lt_of_le (HF16.out.e2.lt g hg).2 hc17.size, fun e => HF16.out.ad g e hg⟩
  have HCA : Hid (∀ g, Gc g → ¬ Ga g) := fun g a b => HF16.out.ac g b a
  have HGA : Hid (∀ g, Ga g → w1.heap.size ≤ g) := fun g hg => HFL4.out g (Or.inl hg)
  have HIV : Hid (Inv V) := HF16.out.d2.inv
  have CO2 := open_any D1 U Ga t w17 HD17.out HT.out
  clear CO hd17 hc17 hf17 hk1 hk2 hnn hee HF16 HB16 HFL4
  go_wp2_with fail
  refine CO2.mono ?_
  rintro e9 w18 ⟨he, Gb, hd18, hc18, hf18⟩
  obtain ⟨ev, hev⟩ : ∃ ev, ev = errV ee := ⟨_, rfl⟩
  rw [← HNN.out.1, ← HNN.out.2, ← hev] at he
  subst he
  have HB18 : Hid (Below w1.heap.size w1 w18) := hc18.below HGA.out HB17.out HB17.out.size
  have HD18 : Hid (DocAt w18 D1 (runS U (opnL t)) Gb) := hd18
  have HC18 : Hid (DocAt w18 D2 V Gc) := HC17.out.chg hc18 HCA.out
  have HK1b : Hid (∀ W : World, Below w18.heap.size w18 W → W.cell? ⟨E1, 0, none⟩ = some (.slice pb1 nb1 cb1) ∧ BookAt W (.slice pb1 nb1 cb1) (runS U (opnL t)).book) := fun W hb => HK1.out W fun g hg => by
    have h1 := hc18.block g (HHL.out g hg) (HHA.out g hg)
    rw [← h1]; exact hb.block g (Nat.lt_of_lt_of_le (HHL.out g hg) hc18.size)
  have HK2b : Hid (∀ W : World, Below w18.heap.size w18 W → W.cell? ⟨E2, 0, none⟩ = some (.slice pb2 nb2 cb2) ∧ BookAt W (.slice pb2 nb2 cb2) V.book) := fun W hb => HK2.out W fun g hg => by
    have h1 := hc18.block g (HEL.out g hg).1 (HEL.out g hg).2
    rw [← HS17.out g hg, ← h1]; exact hb.block g (Nat.lt_of_lt_of_le (HEL.out g hg).1 hc18.size)
  have CE := err_same ee w18 (HG.out w18 HB18.out)
  rw [← hev] at CE
  obtain ⟨X, hX⟩ : ∃ X, X = runS U (opnL t) := ⟨_, rfl⟩
  rw [← hX] at HD18 HK1b
  clear CO2 hd18 hc18 hf18 hev HK1 HK2 HS17 HHA HHL HEL HCA HGA HD17 HC17 HB17 hX HNN
  go_wp2_with fail
  refine CE.mono ?_
  rintro e9 w19 ⟨rfl, hb19⟩
  have HB19 : Hid (Below w18.heap.size w18 w19) := hb19
  clear CE hb19
  -- the books
  have CBK : Hid (∀ W, Below w18.heap.size w18 W → Calls Tryz.prog 18 #[.pointer (some ⟨D1, 0, none⟩)] W fun e w' => ∃ v', e = .returned v' ∧ BookAt w' v' X.book ∧ Below W.heap.size W w') := fun W hb => (book_get D1 _ _ W (HD18.out.below hb)).mono fun e w' ⟨v', h1, h2, h3⟩ => ⟨v', h1, h2.1, h3⟩
  have CBK2 : Hid (∀ W, Below w18.heap.size w18 W → Calls Tryz.prog 18 #[.pointer (some ⟨D2, 0, none⟩)] W fun e w' => ∃ v', e = .returned v' ∧ BookAt w' v' V.book ∧ Below W.heap.size W w') := fun W hb => (book_get D2 _ _ W (HC18.out.below hb)).mono fun e w' ⟨v', h1, h2, h3⟩ => ⟨v', h1, h2.1, h3⟩
  have HIX : Hid (Inv X) := HD18.out.inv
  have SB : Hid (∀ W v, Below w18.heap.size w18 W → BookAt W v X.book → Calls Tryz.prog 17 #[v, .slice pb1 nb1 cb1] W fun e w' => e = .returned (.bool true) ∧ Below W.heap.size W w') := fun W v hb h1 => (Lk.leafs_any v _ _ _ W h1 (HK1b.out W hb).2 (by have := few_book HIX.out; omega)).mono fun e w' ⟨h1, h2⟩ => ⟨by rw [h1]; simp, h2⟩
  have SB2 : Hid (∀ W v, Below w18.heap.size w18 W → BookAt W v V.book → Calls Tryz.prog 17 #[v, .slice pb2 nb2 cb2] W fun e w' => e = .returned (.bool true) ∧ Below W.heap.size W w') := fun W v hb h1 => (Lk.leafs_any v _ _ _ W h1 (HK2b.out W hb).2 (by have := few_book HIV.out; omega)).mono fun e w' ⟨h1, h2⟩ => ⟨by rw [h1]; simp, h2⟩
  have x0 := (HK1b.out w19 HB19.out).1
  go_wp2_with fail
  go_region_held3 (fun W => W.cell? ⟨E1, 0, none⟩ = some (.slice pb1 nb1 cb1)) (first | (go_keep; done) | (refine keep_cell hb8 ?_; (first | assumption | (go_split_ands; assumption))) | (refine keep_cell hb7 ?_; (first | assumption | (go_split_ands; assumption)))) (first
    | (go_at_call 18; refine (CBK.out _ HB19.out.drew).mono ?_; rintro e w20 ⟨v20, rfl, hk7, hb7⟩; obtain ⟨p20, n20, c20, rfl⟩ : ∃ p n c, v20 = .slice p n c := (by obtain ⟨p, c, e, _⟩ := hk7; exact ⟨_, _, _, e⟩); have HB20 : Hid (Below w18.heap.size w18 w20) := bel HB19.out.drew hb7; have HK20 : Hid (BookAt w20 (.slice p20 n20 c20) X.book) := hk7; clear hk7)
    | (go_at_call 17; refine (SB.out _ _ HB20.out HK20.out).mono ?_; rintro e w21 ⟨rfl, hb8⟩; have HB21 : Hid (Below w18.heap.size w18 w21) := bel HB20.out hb8))
  clear hb7 hb8 HK20 HB20 HB19 x0
  have x1 := (HK2b.out w21 HB21.out).1
  go_wp2_with fail
  go_region_held3 (fun W => W.cell? ⟨E2, 0, none⟩ = some (.slice pb2 nb2 cb2)) (first | (go_keep; done) | (refine keep_cell hb8 ?_; (first | assumption | (go_split_ands; assumption))) | (refine keep_cell hb7 ?_; (first | assumption | (go_split_ands; assumption)))) (first
    | (go_at_call 18; refine (CBK2.out _ HB21.out.drew).mono ?_; rintro e w22 ⟨v22, rfl, hk7, hb7⟩; obtain ⟨p22, n22, c22, rfl⟩ : ∃ p n c, v22 = .slice p n c := (by obtain ⟨p, c, e, _⟩ := hk7; exact ⟨_, _, _, e⟩); have HB22 : Hid (Below w18.heap.size w18 w22) := bel HB21.out.drew hb7; have HK22 : Hid (BookAt w22 (.slice p22 n22 c22) V.book) := hk7; clear hk7)
    | (go_at_call 17; refine (SB2.out _ _ HB22.out HK22.out).mono ?_; rintro e w23 ⟨rfl, hb8⟩; have HB23 : Hid (Below w18.heap.size w18 w23) := bel HB22.out hb8))
  clear hb7 hb8 HK22 HB22 HB21 x1
  go_wp2_with fail
  go_ret
  exact ⟨rfl, bel HB18.out HB23.out⟩

end Aj
end Go.Proofs.YtpoijhfojdmdpaaGreatDoor
