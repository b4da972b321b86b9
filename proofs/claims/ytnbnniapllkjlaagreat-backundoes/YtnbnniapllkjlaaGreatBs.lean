/- The walk of BackUndoes. -/
import Derived.Test.YtnbnniapllkjlaaGreatBl
import Derived.Test.YtnbnniapllkjlaaGreatBp
import Derived.Test.YtnbnniapllkjlaaGreatU2
import Derived.Test.YtnbnniapllkjlaaGreatA0
import Derived.Deep.DeepCutAuto
namespace Go.Proofs.YtnbnniapllkjlaaGreat
namespace Bs
set_option linter.unusedVariables false
set_option linter.unusedSimpArgs false
open Go.ChangeShapes Go.WideShapes Go.ChangeAt Go.RowKit Cm Ka Kb Na Om Oa Oz Oc Og Oi Hm Ia Ic Ie Ik Im Il Um Ua Ub Uc Ud Ue Uq Bf Bp Ac
open Bl (UnPost undo_any)
open La (bel bel_drew errV_zero errV_ne own_below)
open Iq (run run_next run_inv off_old)

theorem ap_len {S : Dq} (I : Inv S) (o : Ox) : (apS S o).book.length ≤ S.book.length + 1 ∧ (apS S o).ops.length ≤ S.ops.length + 1 := by
  unfold apS
  cases hn : isNew S o with
  | false => simp
  | true =>
    obtain ⟨_, _, _, hd⟩ := isNew_iff.1 hn
    obtain ⟨_, _, hr⟩ := Bm.bookE_zero.1 I.book
    rw [if_pos rfl]
    refine ⟨?_, by unfold next; simp⟩
    show (doB S o).length ≤ _
    have put (p : ByteArray) (x : Bm.Leaf) : (Bm.putL S.book p x).length ≤ S.book.length + 1 := by rw [Bm.put_length hr]; split <;> omega
    unfold doE at hd
    unfold doB
    by_cases h1 : o.2.1 = 1
    · rw [if_pos h1] at hd ⊢; rw [(Bm.write_book hd).2]; exact put _ _
    · rw [if_neg h1] at hd ⊢
      by_cases h2 : o.2.1 = 2
      · rw [if_pos h2] at hd ⊢; rw [(Bm.strike_book hd).2]; exact put _ _
      · rw [if_neg h2]; omega
theorem run_len (l : List Ox) : ∀ k, k ≤ l.length → (run l k).book.length ≤ k ∧ (run l k).ops.length ≤ k
  | 0, _ => ⟨Nat.le_refl _, Nat.le_refl _⟩
  | k + 1, h => by
    obtain ⟨i1, i2⟩ := run_len l k (by omega)
    rw [run_next (by omega)]
    obtain ⟨a1, a2⟩ := ap_len (Iq.run_inv l k) (l.getD k oz)
    exact ⟨by omega, by omega⟩

theorem new_shape {B : Nat} {w : World} {v : Value} {l : List Ox} (h : OpsNew B w v l) : ∃ p n c, v = .slice p n c := by
  obtain ⟨g, L, e, _⟩ := h; exact ⟨_, _, _, e⟩
theorem ops_max {S : Dq} {who off : Int} {t : ByteArray} (I : Inv S) (h : insE S who off t = 0) : ∀ x ∈ insL S who off t, x.2.2.1.size ≤ maxLen := fun x hx => by
  have := small_ops I.book (insE_zero.1 h) x hx
  unfold maxLen; omega
theorem opsG_J {R : Nat → Prop} {w : World} {v : Value} {l : List Ox} (h : OpsJ R R w v l) : OpsG R w v l := by
  obtain ⟨p, c, h1, h2, h3⟩ := h
  exact ⟨p, c, h1, h2, h3⟩
theorem opsJ_shape {R : Nat → Prop} {w : World} {v : Value} {l : List Ox} (h : OpsJ R R w v l) : ∃ p c, v = .slice p l.length c := by
  obtain ⟨p, c, h1, _⟩ := h
  exact ⟨p, c, h1⟩
theorem textR_list {l : List Bm.Leaf} (h : Bm.bookE l = 0) : (Lf.textR l).toList = Bm.text l := by unfold Lf.textR; rw [if_pos h, Om.toList_mk]
theorem textR_eq {a b : List Bm.Leaf} (ha : Bm.bookE a = 0) (hb : Bm.bookE b = 0) (h : Bm.text a = Bm.text b) : Lf.textR a = Lf.textR b := by
  unfold Lf.textR; rw [if_pos ha, if_pos hb, h]
theorem textR_size {l : List Bm.Leaf} (h : Bm.bookE l = 0) : (Lf.textR l).size = (seenP l).length := by
  rw [seenP_len, ← textR_list h, Om.len_eq]
def hi : ByteArray := ⟨#[104, 105]⟩
theorem hiE : insE d0 1 0 hi = 0 := by kernel_rfl
def dz : Dq := runS d0 (insL d0 1 0 hi)
theorem dz_inv : Inv dz := Um.run_inv _ inv_zero
theorem hiR : runE d0 (insL d0 1 0 hi) = 0 := by kernel_rfl
theorem hiU : unE dz 1 1 = 0 ∧ runE dz (unL dz 1 1) = 0 ∧ Bm.text (runS dz (unL dz 1 1)).book = [104] ∧ (unL dz 1 1).length = 1 := by
  have h := all_back (t := hi) (by decide) hiE 1 (by decide)
  obtain ⟨e1, e2⟩ := ins_whole inv_zero (insE_zero.1 hiE) (by show 0 + 2 ≤ 300; omega) (by show 0 + 2 ≤ 400; omega) 1 (by decide) (Or.inr rfl)
  refine ⟨h.1, h.2.1, ?_, ?_⟩
  · have := h.2.2
    rw [show hi.toList.take (hi.size - 1) = [104] by kernel_rfl] at this; exact this
  · show (unL (runS d0 (insL d0 1 0 hi)) 1 ((1 : Nat) : Int)).length = 1
    rw [e2, ys_len]; rfl
theorem del_max {S : Dq} (I : Inv S) {who off : Int} (h0 : 0 ≤ off) (h1 : off < (seenP S.book).length) : ∀ x ∈ delL S who off (off + 1), x.2.2.1.size ≤ maxLen := fun x hx => by
  rw [del_one h0 h1, List.mem_singleton] at hx
  rw [hx]
  have hl : off.toNat < (seenP S.book).length := by omega
  have : (seenP S.book).getD off.toNat ⟨#[]⟩ ∈ seenP S.book := by rw [List.getD_eq_getElem?_getD, List.getElem?_eq_getElem hl]; exact List.getElem_mem hl
  obtain ⟨y, hy, _, e⟩ := seenP_mem this
  have := chk_size (Bm.leafE_zero.1 ((Bm.bookE_zero.1 I.book).2.1 y hy)).1
  show ((seenP S.book).getD off.toNat ⟨#[]⟩).size ≤ maxLen
  rw [← e]; unfold maxLen; omega

set_option maxRecDepth 100000 in
set_option maxHeartbeats 8000000 in
theorem walk (vl : Value) (l : List Ox) (who off : Int) (t : ByteArray) (sk : Bool) (w : World) (hl : OpsAt w vl l) (hsz : ∀ x ∈ l, x.2.2.1.size ≤ maxLen) (ht : t.size ≤ maxLen) :
    Calls Tryz.prog 3 #[vl, .int .i64 who, .int .i64 off, .string t, .bool sk] w fun e w' => e = .returned (.bool true) ∧ Below w.heap.size w w' := by
  obtain ⟨ql, cl, rfl, hlin, _⟩ := hl
  obtain ⟨n, hn⟩ : ∃ n, n = l.length := ⟨_, rfl⟩
  rw [← hn]
  have HN : Hid (l.length = n) := hn.symm
  have HLI : Hid (OpsIn w ql l) := hlin
  have HSZ : Hid (∀ x ∈ l, x.2.2.1.size ≤ maxLen) := hsz
  have HTM : Hid (t.size ≤ maxLen) := ht
  have htz : (t.size : Int) ≤ 9223372036854775807 := by unfold maxLen at ht; omega
  clear hlin hsz hn ht
  go_enter Tryz.func3, Tryz.ntmps3
  go_wp2_with fail
  refine (new_any w).mono ?_
  rintro e w1 ⟨Z, F1, rfl, hd1, hf1, hb1⟩
  have HD1 : Hid (DocAt w1 Z d0 F1) := hd1
  have HB1 : Hid (Below w.heap.size w w1) := hb1
  have HF1 : Hid (∀ g, F1 g → w.heap.size ≤ g ∧ g < w1.heap.size) := fun g hg => ⟨hf1 g hg, hd1.lt g hg⟩
  have CI := insert_any Z d0 F1 1 0 hi w1 hd1 (by unfold maxLen; decide)
  rw [hiE] at CI
  unfold hi at CI
  clear hd1 hf1 hb1
  go_wp2_with fail
  refine CI.mono ?_
  rintro e w3 ⟨v3, he, hv3, _, hb3⟩
  rw [errV_zero] at he
  subst he
  have hv3 := hv3 rfl
  obtain ⟨p3, n3, c3, rfl⟩ := new_shape hv3
  have HXG : Hid (OpsG (fun g => w1.heap.size ≤ g ∧ g < w3.heap.size) w3 (.slice p3 n3 c3) (insL d0 1 0 hi)) := OpsG.new hv3
  have HB3 : Hid (Below w.heap.size w w3) := bel HB1.out hb3
  have HD3 : Hid (DocAt w3 Z d0 F1) := HD1.out.below hb3
  have CD := do_any Z d0 F1 _ _ (insL d0 1 0 hi) w3 HD3.out HXG.out (fun g hg => ⟨hg.2, fun e => by have := (HF1.out g e).2; have := hg.1; omega⟩) (ops_max inv_zero hiE)
  clear CI hv3 hb3 HD1
  go_wp2_with fail
  refine CD.mono ?_
  rintro e w4 ⟨he, F4, hd4, hc4, hf4⟩
  rw [hiR, errV_zero] at he
  subst he
  have HB4 : Hid (Below w.heap.size w w4) := hc4.below (fun g hg => (HF1.out g hg).1) HB3.out HB3.out.size
  have HF4 : Hid (∀ g, F4 g → w.heap.size ≤ g ∧ g < w4.heap.size) := fun g hg => ⟨by
    rcases hf4 g hg with e | e
    · exact (HF1.out g e).1
    · exact Nat.le_trans HB3.out.size e, hd4.lt g hg⟩
  have HD4 : Hid (DocAt w4 Z dz F4) := hd4
  have CU := undo_any Z dz F4 1 1 w4 HD4.out
  rw [hiU.1] at CU
  clear CD hd4 hc4 hf4 HF1 HXG HD3 HB3 HB1
  go_wp2_with fail
  refine CU.mono ?_
  rintro e w5 ⟨v5, he, hv5, _, hb5⟩
  rw [errV_zero] at he
  subst he
  have hv5 := hv5 rfl
  obtain ⟨p5, c5, rfl⟩ := opsJ_shape hv5
  have HB5 : Hid (Below w.heap.size w w5) := bel HB4.out hb5
  have CD := do_any Z dz F4 (New w4.heap.size w5) _ (unL dz 1 1) w5 (HD4.out.below hb5) (opsG_J hv5) (fun g hg => ⟨hg.2, fun e => by have := (HF4.out g e).2; have := hg.1; omega⟩) (unL_small dz_inv 1 1)
  rw [hiU.2.2.2] at CD ⊢
  clear CU hv5 hb5
  go_wp2_with fail
  refine CD.mono ?_
  rintro e w6 ⟨he, F6, hd6, hc6, hf6⟩
  rw [hiU.2.1, errV_zero] at he
  subst he
  have HB6 : Hid (Below w.heap.size w w6) := hc6.below (fun g hg => (HF4.out g hg).1) HB5.out HB5.out.size
  have CT := text_get Z _ F6 w6 hd6
  have hth : Lf.textR (runS dz (unL dz 1 1)).book = ⟨#[104]⟩ := by
    unfold Lf.textR; rw [if_pos (Um.run_inv _ dz_inv).book, hiU.2.2.1]
  rw [hth] at CT
  have hne : ((⟨#[104]⟩ : ByteArray).toList == (⟨#[104]⟩ : ByteArray).toList) = true := by simp
  have hne2 : ((⟨#[104]⟩ : ByteArray).toList != (⟨#[104]⟩ : ByteArray).toList) = false := by simp
  clear CD hd6 hc6 hf6 HD4 HF4 HB5 HB4 hth
  go_wp2_with fail
  refine CT.mono ?_
  rintro e w7 ⟨rfl, hb7⟩
  have HB7 : Hid (Below w.heap.size w w7) := bel HB6.out hb7
  clear CT hb7 HB6
  go_wp2_with fail
  refine (new_any w7).mono ?_
  rintro e w2 ⟨D, F2, rfl, hd2, hf2, hb2⟩
  have HD2 : Hid (DocAt w2 D (run l 0) F2) := hd2
  have HB2 : Hid (Below w.heap.size w w2) := bel HB7.out hb2
  have HF2 : Hid (∀ g, F2 g → w.heap.size ≤ g) := fun g hg => Nat.le_trans HB7.out.size (hf2 g hg)
  clear hd2 hf2 hb2 HB7 hne hne2
  go_wp2_with fail
  go_loopw [16] (fun vi wr => ∃ (k : Nat) (F : Nat → Prop), k ≤ n ∧ k ≤ 60 ∧ vi = .int .i64 k ∧ Hid (DocAt wr D (run l k) F) ∧ Hid (∀ g, F g → w.heap.size ≤ g) ∧ Hid (Below w.heap.size w wr)) (fun vi _ => 60 - (intOf vi).toNat)
  case atStart => exact ⟨0, F2, by omega, by omega, rfl, HD2, HF2, HB2⟩
  case round =>
    clear HD2 HF2 HB2
    obtain ⟨k, F, hk, hk60, rfl, HD, HF, HB⟩ := hrel
    go_upto_region 10 with fail
    go_cut [67] from 60 to 75 (fun s43 wx => ∃ t : Bool, s43 = .bool t ∧ Hid (t = decide (k < n ∧ k < 60)) ∧ wr = wx)
    case first =>
      by_cases h1 : k < n
      · have h1z : (k : Int) < n := by omega
        by_cases h2 : k < 60
        · have h2z : (k : Int) < 60 := by omega
          go_wp2_with fail
          go_meet
          case rel => exact ⟨true, rfl, (decide_eq_true ⟨h1, h2⟩).symm, rfl⟩
        · have h2z : ¬ (k : Int) < 60 := by omega
          have H2 : Hid (decide (k < n ∧ k < 60) = false) := decide_eq_false (fun h => h2 h.2)
          go_wp2_with fail
          go_meet
          case rel => exact ⟨false, by simp [h2], H2.out.symm, rfl⟩
      · have h1z : ¬ (k : Int) < n := by omega
        have H2 : Hid (decide (k < n ∧ k < 60) = false) := decide_eq_false (fun h => h1 h.1)
        go_wp2_with fail
        go_meet
        case rel => exact ⟨false, rfl, H2.out.symm, rfl⟩
    case rest =>
    obtain ⟨tt, rfl, HTT, rfl⟩ := hcut
    cases tt
    case true =>
      obtain ⟨hlt1, hlt2⟩ := of_decide_eq_true HTT.out.symm
      have hltz : (k : Int) < n := by omega
      have hkl : k < l.length := by rw [HN.out]; exact hlt1
      obtain ⟨bo, oo, rfl, hc⟩ := HLI.out.some (by intro e; rw [e] at hkl; simp at hkl)
      have ha0 := hc k hkl
      have hxm := HSZ.out _ (getO_mem hkl)
      have HRN : Hid (run l (k + 1) = apS (run l k) (l.getD k oz)) := run_next hkl
      obtain ⟨x, hx⟩ : ∃ x, x = l.getD k oz := ⟨_, rfl⟩
      rw [← hx] at ha0 hxm HRN
      obtain ⟨⟨xa, xb⟩, xt, xp, xc, xs⟩ := x
      obtain ⟨vx, ⟨g0, g1, g2, g3, g4, g5⟩, hdx0⟩ := ha0
      simp only at g0 g1 g2 g3 g4 g5 hdx0 hxm
      obtain ⟨pv, nv, cv, rfl⟩ : ∃ pv nv cv, vx = .slice pv nv cv := by obtain ⟨_, _, e9, _⟩ := hdx0; exact ⟨_, _, _, e9⟩
      have hlt' := World.block_lt_of_cell? _ _ g0
      have a0 := (HB.out.cell (p := ⟨bo, oo + k * 6, none⟩) hlt').trans g0
      have a1 := (HB.out.cell (p := ⟨bo, oo + k * 6 + 1, none⟩) hlt').trans g1
      have a2 := (HB.out.cell (p := ⟨bo, oo + k * 6 + 2, none⟩) hlt').trans g2
      have a3 := (HB.out.cell (p := ⟨bo, oo + k * 6 + 3, none⟩) hlt').trans g3
      have a4 := (HB.out.cell (p := ⟨bo, oo + k * 6 + 4, none⟩) hlt').trans g4
      have a5 := (HB.out.cell (p := ⟨bo, oo + k * 6 + 5, none⟩) hlt').trans g5
      have C := apply_any D (run l k) F xa xb xt xp xc (.slice pv nv cv) xs wr HD.out (hdx0.below HB.out) (off_old hdx0 HF.out) hxm
      clear hc hx hkl hxm hdx0 g0 g1 g2 g3 g4 g5 hlt'
      go_wp2_with fail
      refine C.mono ?_
      rintro e w9 ⟨he, _, F9, hd9, hc9, hf9⟩
      have HD9 : Hid (DocAt w9 D (run l (k + 1)) F9) := by unfold Hid; rw [HRN.out]; exact hd9
      have HB9 : Hid (Below w.heap.size w w9) := hc9.below HF.out HB.out HB.out.size
      have HF9 : Hid (∀ g, F9 g → w.heap.size ≤ g) := fun g hg => by
        rcases hf9 g hg with e | e
        · exact HF.out g e
        · exact Nat.le_trans HB.out.size e
      obtain ⟨ev, hev⟩ : ∃ ev, ev = Value.tuple #[.bool (isNew (run l k) ((xa, xb), xt, xp, xc, xs)), errV (apE (run l k) ((xa, xb), xt, xp, xc, xs))] := ⟨_, rfl⟩
      rw [← hev] at he
      subst he
      clear hd9 hc9 hf9 C a0 a1 a2 a3 a4 a5 hev HD HF HB
      go_wp2_with fail
      go_roundw
      case rel => exact ⟨k + 1, F9, by omega, by omega, by go_num, HD9, HF9, HB9⟩
      case measure => simp [intOf]; omega
    case false =>
      obtain ⟨S, hS⟩ : ∃ S, S = run l k := ⟨_, rfl⟩
      have HI : Hid (Inv S) := by unfold Hid; rw [hS]; exact run_inv l k
      have HLN : Hid (S.book.length ≤ 60 ∧ S.ops.length ≤ 60) := by
        have := run_len l k (by rw [HN.out]; exact hk)
        unfold Hid; rw [hS]; omega
      rw [← hS] at HD
      have CT := text_get D S F wr HD.out
      have HTS : Hid ((Lf.textR S.book).size = (seenP S.book).length) := textR_size HI.out.book
      obtain ⟨T, hT⟩ : ∃ T, T = Lf.textR S.book := ⟨_, rfl⟩
      rw [← hT] at CT HTS
      have HTE : Hid (T = Lf.textR S.book) := hT
      have h300 : T.size ≤ 300 := by rw [HTS.out]; have := seenP_le S.book; have := HLN.out.1; omega
      clear hS HSZ HLI HTT hT
      go_wp2_with fail
      refine CT.mono ?_
      rintro e w3 ⟨rfl, hb3⟩
      have HB3 : Hid (Below w.heap.size w w3) := bel HB.out hb3
      have HD3 : Hid (DocAt w3 D S F) := HD.out.below hb3
      have CI := insert_any D S F who off t w3 HD3.out HTM.out
      clear CT hb3 HD
      cases sk
      case false =>
        by_cases hx0 : insE S who off t = 0
        case neg =>
          obtain ⟨ez, hez⟩ : ∃ ez, ez = insE S who off t := ⟨_, rfl⟩
          rw [← hez] at CI hx0
          have HX0 : Hid (ez ≠ 0) := hx0
          clear hez hx0
          go_wp2_with fail
          refine CI.mono ?_
          rintro e w4 ⟨v4, he, _, hv4, hb4⟩
          have := hv4 HX0.out
          subst this
          rw [errV_ne HX0.out] at he
          subst he
          have HB4 : Hid (Below w.heap.size w w4) := bel HB3.out hb4
          clear CI hv4 hb4
          go_wp2_with fail
          go_ret
          exact ⟨rfl, HB4.out⟩
        case pos =>
        have HXM : Hid (∀ x ∈ insL S who off t, x.2.2.1.size ≤ maxLen) := ops_max HI.out hx0
        have HTT : Hid (runE S (insL S who off t) = 0 → unE (runS S (insL S who off t)) who (t.size : Int) = 0 → (unL (runS S (insL S who off t)) who (t.size : Int)).length = t.size ∧ (runE (runS S (insL S who off t)) (unL (runS S (insL S who off t)) who (t.size : Int)) = 0 → Bm.text (runS (runS S (insL S who off t)) (unL (runS S (insL S who off t)) who (t.size : Int))).book = Bm.text S.book)) := fun _ _ => (back_ins HI.out HLN.out.1 HLN.out.2 hx0).2.2
        rw [hx0] at CI
        clear hx0
        go_wp2_with fail
        refine CI.mono ?_
        rintro e w4 ⟨v4, he, hv4, _, hb4⟩
        rw [errV_zero] at he
        subst he
        have hv4 := hv4 rfl
        obtain ⟨p4, n4, c4, rfl⟩ := new_shape hv4
        clear CI
        have HXG : Hid (OpsG (fun g => w3.heap.size ≤ g ∧ g < w4.heap.size) w4 (.slice p4 n4 c4) (insL S who off t)) := OpsG.new hv4
        have HB4 : Hid (Below w.heap.size w w4) := bel HB3.out hb4
        have HD4 : Hid (DocAt w4 D S F) := HD3.out.below hb4
        have HFL : Hid (∀ g, F g → g < w3.heap.size) := fun g hg => HD3.out.lt g hg
        have CD := do_any D S F _ _ (insL S who off t) w4 HD4.out HXG.out (fun g hg => ⟨hg.2, fun e => by have := HFL.out g e; have := hg.1; omega⟩) HXM.out
        clear hv4 hb4 HXG HD3 HFL
        by_cases hr0 : runE S (insL S who off t) = 0
        case neg =>
          rw [show DoPost w4 D S F (insL S who off t) = DoPost w4 D S F (insL S who off t) from rfl] at CD
          have HR0 : Hid (runE S (insL S who off t) ≠ 0) := hr0
          clear hr0
          go_wp2_with fail
          refine CD.mono ?_
          rintro e w5 ⟨he, F5, hd5, hc5, hf5⟩
          rw [errV_ne HR0.out] at he
          generalize runE S (insL S who off t) = ee at he
          subst he
          have HB5 : Hid (Below w.heap.size w w5) := hc5.below HF.out HB4.out HB4.out.size
          clear CD hd5 hc5 hf5
          go_wp2_with fail
          go_ret
          exact ⟨rfl, HB5.out⟩
        case pos =>
        have HR0 : Hid (runE S (insL S who off t) = 0) := hr0
        clear hr0
        go_wp2_with fail
        refine CD.mono ?_
        rintro e w5 ⟨he, F5, hd5, hc5, hf5⟩
        rw [HR0.out, errV_zero] at he
        subst he
        have HB5 : Hid (Below w.heap.size w w5) := hc5.below HF.out HB4.out HB4.out.size
        have HF5 : Hid (∀ g, F5 g → w.heap.size ≤ g ∧ g < w5.heap.size) := fun g hg => ⟨by
          rcases hf5 g hg with e | e
          · exact HF.out g e
          · exact Nat.le_trans HB4.out.size e, hd5.lt g hg⟩
        have HD5 : Hid (DocAt w5 D (runS S (insL S who off t)) F5) := hd5
        have HI5 : Hid (Inv (runS S (insL S who off t))) := Um.run_inv _ HI.out
        have HTL : Hid (unE (runS S (insL S who off t)) who ((t.size : Int)) = 0 → (unL (runS S (insL S who off t)) who ((t.size : Int))).length = t.size ∧ (runE (runS S (insL S who off t)) (unL (runS S (insL S who off t)) who ((t.size : Int))) = 0 → Bm.text (runS (runS S (insL S who off t)) (unL (runS S (insL S who off t)) who ((t.size : Int)))).book = Bm.text S.book)) := HTT.out HR0.out
        obtain ⟨S1, hS1⟩ : ∃ S1, S1 = runS S (insL S who off t) := ⟨_, rfl⟩
        rw [← hS1] at HD5 HI5 HTL
        clear CD hd5 hc5 hf5 hS1 HD4 HB4 HR0 HTT HXM
        have CU := undo_any D S1 F5 who ((t.size : Int)) w5 HD5.out
        by_cases hu0 : unE S1 who ((t.size : Int)) = 0
        case neg =>
          have HU0 : Hid (unE S1 who ((t.size : Int)) ≠ 0) := hu0
          clear hu0
          go_wp2_with fail
          refine CU.mono ?_
          rintro e w6 ⟨v6, he, _, hv6, hb6⟩
          have := hv6 HU0.out
          subst this
          rw [errV_ne HU0.out] at he
          generalize unE S1 who ((t.size : Int)) = ee at he
          subst he
          have HB6 : Hid (Below w.heap.size w w6) := bel HB5.out hb6
          clear CU hv6 hb6
          go_wp2_with fail
          go_ret
          exact ⟨rfl, HB6.out⟩
        case pos =>
        obtain ⟨hlen, htx⟩ := HTL.out hu0
        have HTX : Hid (runE S1 (unL S1 who ((t.size : Int))) = 0 → Bm.text (runS S1 (unL S1 who ((t.size : Int)))).book = Bm.text S.book) := htx
        rw [hu0] at CU
        clear hu0 HTL htx
        go_wp2_with fail
        refine CU.mono ?_
        rintro e w6 ⟨v6, he, hv6, _, hb6⟩
        rw [errV_zero] at he
        subst he
        have hv6 := hv6 rfl
        obtain ⟨p6, c6, rfl⟩ := opsJ_shape hv6
        have HB6 : Hid (Below w.heap.size w w6) := bel HB5.out hb6
        have CD := do_any D S1 F5 (New w5.heap.size w6) _ (unL S1 who ((t.size : Int))) w6 (HD5.out.below hb6) (opsG_J hv6) (fun g hg => ⟨hg.2, fun e => by have := (HF5.out g e).2; have := hg.1; omega⟩) (unL_small HI5.out who ((t.size : Int)))
        rw [hlen] at CD ⊢
        clear CU hv6 hb6 hlen
        by_cases hr1 : runE S1 (unL S1 who ((t.size : Int))) = 0
        case neg =>
          have HR1 : Hid (runE S1 (unL S1 who ((t.size : Int))) ≠ 0) := hr1
          clear hr1
          go_wp2_with fail
          refine CD.mono ?_
          rintro e w7 ⟨he, F7, hd7, hc7, hf7⟩
          rw [errV_ne HR1.out] at he
          generalize runE S1 (unL S1 who ((t.size : Int))) = ee at he
          subst he
          have HB7 : Hid (Below w.heap.size w w7) := hc7.below (fun g hg => (HF5.out g hg).1) HB6.out HB6.out.size
          clear CD hd7 hc7 hf7
          go_wp2_with fail
          go_ret
          exact ⟨rfl, HB7.out⟩
        case pos =>
        have HR1 : Hid (runE S1 (unL S1 who ((t.size : Int))) = 0) := hr1
        clear hr1
        go_wp2_with fail
        refine CD.mono ?_
        rintro e w7 ⟨he, F7, hd7, hc7, hf7⟩
        rw [HR1.out, errV_zero] at he
        subst he
        have HB7 : Hid (Below w.heap.size w w7) := hc7.below (fun g hg => (HF5.out g hg).1) HB6.out HB6.out.size
        have CT := text_get D _ F7 w7 hd7
        rw [textR_eq (Um.run_inv _ HI5.out).book HI.out.book (HTX.out HR1.out), ← HTE.out] at CT
        have htt : (T.toList == T.toList) = true := by simp
        clear CD hd7 hc7 hf7
        go_wp2_with fail
        refine CT.mono ?_
        rintro e w8 ⟨rfl, hb8⟩
        have HB8 : Hid (Below w.heap.size w w8) := bel HB7.out hb8
        clear CT hb8
        go_wp2_with fail
        go_ret
        exact ⟨rfl, HB8.out⟩
      case true =>
        by_cases hoff : off < 0 ∨ (T.size : Int) ≤ off
        · have tst : off < 0 ∨ (¬ off < 0 ∧ (T.size : Int) ≤ off) := by omega
          clear hoff
          rcases tst with q1 | ⟨q1, q2⟩
          all_goals
            go_wp2_with fail
            refine CI.mono ?_
            rintro e w4 ⟨v4, he, _, _, hb4⟩
            have HB4 : Hid (Below w.heap.size w w4) := bel HB3.out hb4
            generalize errV (insE S who off t) = ev at he
            subst he
            clear CI hb4
            go_wp2_with fail
            go_ret
            exact ⟨rfl, HB4.out⟩
        have q1 : ¬ off < 0 := by omega
        have q2 : ¬ (T.size : Int) ≤ off := by omega
        have hoff0 : 0 ≤ off := by omega
        have HO1 : Hid (off < (seenP S.book).length) := by rw [Hid, ← HTS.out]; omega
        have hw1 : IntKind.i64.wrap (off + 1) = off + 1 := wrap_in (by omega) (by omega)
        clear hoff
        go_wp2_with fail
        refine CI.mono ?_
        rintro e w3b ⟨v3b, he, _, _, hb3b⟩
        have HB3b : Hid (Below w.heap.size w w3b) := bel HB3.out hb3b
        have HD3b : Hid (DocAt w3b D S F) := HD3.out.below hb3b
        generalize errV (insE S who off t) = ev at he
        subst he
        have CE := delete_any D S F who off (off + 1) w3b HD3b.out
        clear CI hb3b HD3
        by_cases hx0 : delE S who off (off + 1) = 0
        case neg =>
          obtain ⟨ez, hez⟩ : ∃ ez, ez = delE S who off (off + 1) := ⟨_, rfl⟩
          rw [← hez] at CE hx0
          have HX0 : Hid (ez ≠ 0) := hx0
          clear hez hx0
          go_wp2_with fail
          refine CE.mono ?_
          rintro e w4 ⟨v4, he, _, hv4, hb4⟩
          have := hv4 HX0.out
          subst this
          rw [errV_ne HX0.out] at he
          subst he
          have HB4 : Hid (Below w.heap.size w w4) := bel HB3b.out hb4
          clear CE hv4 hb4
          go_wp2_with fail
          go_ret
          exact ⟨rfl, HB4.out⟩
        case pos =>
        have hwho : 1 ≤ who ∧ who ≤ 8 := by
          cases e : Pm.isWho who with
          | false => unfold delE at hx0; rw [if_pos e] at hx0; exact absurd hx0 (by decide)
          | true => simpa [Pm.isWho] using e
        have HXM : Hid (∀ x ∈ delL S who off (off + 1), x.2.2.1.size ≤ maxLen) := del_max HI.out hoff0 HO1.out
        have HTT : Hid (runE S (delL S who off (off + 1)) = 0 → unE (runS S (delL S who off (off + 1))) who 1 = 0 → (unL (runS S (delL S who off (off + 1))) who 1).length = 1 ∧ (runE (runS S (delL S who off (off + 1))) (unL (runS S (delL S who off (off + 1))) who 1) = 0 → Bm.text (runS (runS S (delL S who off (off + 1))) (unL (runS S (delL S who off (off + 1))) who 1)).book = Bm.text S.book)) := fun h1 h2 => back_del HI.out hwho.1 hwho.2 hoff0 HO1.out h1 h2
        rw [hx0] at CE
        clear hx0 hwho
        go_wp2_with fail
        refine CE.mono ?_
        rintro e w4 ⟨v4, he, hv4, _, hb4⟩
        rw [errV_zero] at he
        subst he
        have hv4 := hv4 rfl
        obtain ⟨p4, n4, c4, rfl⟩ := new_shape hv4
        clear CE
        have HXG : Hid (OpsG (fun g => w3b.heap.size ≤ g ∧ g < w4.heap.size) w4 (.slice p4 n4 c4) (delL S who off (off + 1))) := OpsG.new hv4
        have HB4 : Hid (Below w.heap.size w w4) := bel HB3b.out hb4
        have HD4 : Hid (DocAt w4 D S F) := HD3b.out.below hb4
        have HFL : Hid (∀ g, F g → g < w3b.heap.size) := fun g hg => HD3b.out.lt g hg
        have CD := do_any D S F _ _ (delL S who off (off + 1)) w4 HD4.out HXG.out (fun g hg => ⟨hg.2, fun e => by have := HFL.out g e; have := hg.1; omega⟩) HXM.out
        clear hv4 hb4 HXG HD3b HFL
        by_cases hr0 : runE S (delL S who off (off + 1)) = 0
        case neg =>
          rw [show DoPost w4 D S F (delL S who off (off + 1)) = DoPost w4 D S F (delL S who off (off + 1)) from rfl] at CD
          have HR0 : Hid (runE S (delL S who off (off + 1)) ≠ 0) := hr0
          clear hr0
          go_wp2_with fail
          refine CD.mono ?_
          rintro e w5 ⟨he, F5, hd5, hc5, hf5⟩
          rw [errV_ne HR0.out] at he
          generalize runE S (delL S who off (off + 1)) = ee at he
          subst he
          have HB5 : Hid (Below w.heap.size w w5) := hc5.below HF.out HB4.out HB4.out.size
          clear CD hd5 hc5 hf5
          go_wp2_with fail
          go_ret
          exact ⟨rfl, HB5.out⟩
        case pos =>
        have HR0 : Hid (runE S (delL S who off (off + 1)) = 0) := hr0
        clear hr0
        go_wp2_with fail
        refine CD.mono ?_
        rintro e w5 ⟨he, F5, hd5, hc5, hf5⟩
        rw [HR0.out, errV_zero] at he
        subst he
        have HB5 : Hid (Below w.heap.size w w5) := hc5.below HF.out HB4.out HB4.out.size
        have HF5 : Hid (∀ g, F5 g → w.heap.size ≤ g ∧ g < w5.heap.size) := fun g hg => ⟨by
          rcases hf5 g hg with e | e
          · exact HF.out g e
          · exact Nat.le_trans HB4.out.size e, hd5.lt g hg⟩
        have HD5 : Hid (DocAt w5 D (runS S (delL S who off (off + 1))) F5) := hd5
        have HI5 : Hid (Inv (runS S (delL S who off (off + 1)))) := Um.run_inv _ HI.out
        have HTL : Hid (unE (runS S (delL S who off (off + 1))) who (1) = 0 → (unL (runS S (delL S who off (off + 1))) who (1)).length = 1 ∧ (runE (runS S (delL S who off (off + 1))) (unL (runS S (delL S who off (off + 1))) who (1)) = 0 → Bm.text (runS (runS S (delL S who off (off + 1))) (unL (runS S (delL S who off (off + 1))) who (1))).book = Bm.text S.book)) := HTT.out HR0.out
        obtain ⟨S1, hS1⟩ : ∃ S1, S1 = runS S (delL S who off (off + 1)) := ⟨_, rfl⟩
        rw [← hS1] at HD5 HI5 HTL
        clear CD hd5 hc5 hf5 hS1 HD4 HB4 HR0 HTT HXM
        have CU := undo_any D S1 F5 who (1) w5 HD5.out
        by_cases hu0 : unE S1 who (1) = 0
        case neg =>
          have HU0 : Hid (unE S1 who (1) ≠ 0) := hu0
          clear hu0
          go_wp2_with fail
          refine CU.mono ?_
          rintro e w6 ⟨v6, he, _, hv6, hb6⟩
          have := hv6 HU0.out
          subst this
          rw [errV_ne HU0.out] at he
          generalize unE S1 who (1) = ee at he
          subst he
          have HB6 : Hid (Below w.heap.size w w6) := bel HB5.out hb6
          clear CU hv6 hb6
          go_wp2_with fail
          go_ret
          exact ⟨rfl, HB6.out⟩
        case pos =>
        obtain ⟨hlen, htx⟩ := HTL.out hu0
        have HTX : Hid (runE S1 (unL S1 who (1)) = 0 → Bm.text (runS S1 (unL S1 who (1))).book = Bm.text S.book) := htx
        rw [hu0] at CU
        clear hu0 HTL htx
        go_wp2_with fail
        refine CU.mono ?_
        rintro e w6 ⟨v6, he, hv6, _, hb6⟩
        rw [errV_zero] at he
        subst he
        have hv6 := hv6 rfl
        obtain ⟨p6, c6, rfl⟩ := opsJ_shape hv6
        have HB6 : Hid (Below w.heap.size w w6) := bel HB5.out hb6
        have CD := do_any D S1 F5 (New w5.heap.size w6) _ (unL S1 who (1)) w6 (HD5.out.below hb6) (opsG_J hv6) (fun g hg => ⟨hg.2, fun e => by have := (HF5.out g e).2; have := hg.1; omega⟩) (unL_small HI5.out who (1))
        rw [hlen] at CD ⊢
        clear CU hv6 hb6 hlen
        by_cases hr1 : runE S1 (unL S1 who (1)) = 0
        case neg =>
          have HR1 : Hid (runE S1 (unL S1 who (1)) ≠ 0) := hr1
          clear hr1
          go_wp2_with fail
          refine CD.mono ?_
          rintro e w7 ⟨he, F7, hd7, hc7, hf7⟩
          rw [errV_ne HR1.out] at he
          generalize runE S1 (unL S1 who (1)) = ee at he
          subst he
          have HB7 : Hid (Below w.heap.size w w7) := hc7.below (fun g hg => (HF5.out g hg).1) HB6.out HB6.out.size
          clear CD hd7 hc7 hf7
          go_wp2_with fail
          go_ret
          exact ⟨rfl, HB7.out⟩
        case pos =>
        have HR1 : Hid (runE S1 (unL S1 who (1)) = 0) := hr1
        clear hr1
        go_wp2_with fail
        refine CD.mono ?_
        rintro e w7 ⟨he, F7, hd7, hc7, hf7⟩
        rw [HR1.out, errV_zero] at he
        subst he
        have HB7 : Hid (Below w.heap.size w w7) := hc7.below (fun g hg => (HF5.out g hg).1) HB6.out HB6.out.size
        have CT := text_get D _ F7 w7 hd7
        rw [textR_eq (Um.run_inv _ HI5.out).book HI.out.book (HTX.out HR1.out), ← HTE.out] at CT
        have htt : (T.toList == T.toList) = true := by simp
        clear CD hd7 hc7 hf7
        go_wp2_with fail
        refine CT.mono ?_
        rintro e w8 ⟨rfl, hb8⟩
        have HB8 : Hid (Below w.heap.size w w8) := bel HB7.out hb8
        clear CT hb8
        go_wp2_with fail
        go_ret
        exact ⟨rfl, HB8.out⟩

end Bs
end Go.Proofs.YtnbnniapllkjlaaGreat
