/- The walk of CursorStays. -/
import Derived.Test.YtonbohekiliepaaCb
import Derived.Test.YtonbohekiliepaaUe
import Derived.Deep.DeepCutAuto
namespace Go.Proofs.Ytonbohekiliepaa
namespace Ce
set_option linter.unusedVariables false
set_option linter.unusedSimpArgs false
open Go.ChangeShapes Go.WideShapes Go.ChangeAt Go.RowKit Cm Ka Kb Na Om Oa Oz Oc Og Oi Hm Ia Ib Ic Idc Ie If Ig Ih Ii Ij Ik Il Im Um Ua Ub Uc Ud Ue Ca Cb
open La (bel bel_drew errV_zero errV_ne own_ge own_grow own_below Lies LeafsIn)
open Lj (BookAt BookNew)
open Iq (run run_next run_inv off_old)

def l1 : List Bm.Leaf := [(⟨#[102, 98]⟩, 104, false), (⟨#[110, 98]⟩, 105, false)]
theorem fact1 : anchE l1 1 = 0 ∧ anchR l1 1 = ⟨#[110, 98]⟩ := by decide +kernel
theorem two_leafs (w : World) : BookAt (w.alloc (.cells #[.string ⟨#[102, 98]⟩, .int .i64 104, .bool false, .string ⟨#[110, 98]⟩, .int .i64 105, .bool false] 56)) (.slice (some ⟨w.heap.size, 0, none⟩) 2 2) l1 := by
  have h1 := heap_alloc_new w (.cells #[.string ⟨#[102, 98]⟩, .int .i64 104, .bool false, .string ⟨#[110, 98]⟩, .int .i64 105, .bool false] 56)
  refine ⟨_, _, rfl, Or.inr ⟨w.heap.size, 0, rfl, fun j hj => ?_⟩, Nat.le_refl _, by unfold maxLen; omega, fun e => by cases e⟩
  match j, hj with
  | 0, _ => exact ⟨blk_cell h1 rfl, blk_cell h1 rfl, blk_cell h1 rfl⟩
  | 1, _ => exact ⟨blk_cell h1 rfl, blk_cell h1 rfl, blk_cell h1 rfl⟩
theorem small1 : ∀ x ∈ l1, x.1.size ≤ maxLen := by
  intro x hx
  unfold l1 at hx
  simp only [List.mem_cons, List.not_mem_nil, or_false] at hx
  unfold maxLen
  rcases hx with rfl | rfl <;> decide
theorem ops_max {S : Dq} {who off : Int} {t : ByteArray} (I : Inv S) (h : insE S who off t = 0) : ∀ x ∈ insL S who off t, x.2.2.1.size ≤ maxLen := fun x hx => by
  have := small_ops I.book (insE_zero.1 h) x hx
  unfold maxLen; omega
theorem new_shape {B : Nat} {w : World} {v : Value} {l : List Ox} (h : OpsNew B w v l) : ∃ p n c, v = .slice p n c := by
  obtain ⟨g, L, e, _⟩ := h; exact ⟨_, _, _, e⟩
theorem at_shape {w : World} {v : Value} {l : List Bm.Leaf} (h : BookAt w v l) : ∃ p n c, v = .slice p n c := by
  obtain ⟨p, c, e, _⟩ := h; exact ⟨_, _, _, e⟩

set_option maxRecDepth 100000 in
set_option maxHeartbeats 8000000 in
theorem walk (vl : Value) (l : List Ox) (who at_ off : Int) (t : ByteArray) (w : World) (hl : OpsAt w vl l) (hsz : ∀ x ∈ l, x.2.2.1.size ≤ maxLen) (ht : t.size ≤ maxLen) :
    Calls Try.prog 6 #[vl, .int .i64 who, .int .i64 at_, .int .i64 off, .string t] w fun e w' => e = .returned (.bool true) ∧ Below w.heap.size w w' := by
  obtain ⟨ql, cl, rfl, hlin, _⟩ := hl
  obtain ⟨n, hn⟩ : ∃ n, n = l.length := ⟨_, rfl⟩
  rw [← hn]
  have HN : Hid (l.length = n) := hn.symm
  have HLI : Hid (OpsIn w ql l) := hlin
  have HSZ : Hid (∀ x ∈ l, x.2.2.1.size ≤ maxLen) := hsz
  have HTM : Hid (t.size ≤ maxLen) := ht
  have C1 := anchor_any _ l1 1 _ (two_leafs w) small1
  rw [fact1.1, fact1.2, errV_zero] at C1
  have HB0 : Hid (Below w.heap.size w (w.alloc (.cells #[.string ⟨#[102, 98]⟩, .int .i64 104, .bool false, .string ⟨#[110, 98]⟩, .int .i64 105, .bool false] 56))) := (Below.refl _ w).alloc (Nat.le_refl _) _
  have hnb : ((⟨#[110, 98]⟩ : ByteArray).toList == (⟨#[110, 98]⟩ : ByteArray).toList) = true := by simp
  clear hlin hsz hn ht
  go_enter Try.func6, Try.ntmps6
  go_wp2_with fail
  refine C1.mono ?_
  rintro e w1 ⟨rfl, hb1⟩
  have HB1 : Hid (Below w.heap.size w w1) := bel HB0.out hb1
  clear hb1 C1 HB0
  go_wp2_with fail
  refine (new_any w1).mono ?_
  rintro e w2 ⟨D, F2, rfl, hd2, hf2, hb2⟩
  have HD2 : Hid (DocAt w2 D (run l 0) F2) := hd2
  have HB2 : Hid (Below w.heap.size w w2) := bel HB1.out hb2
  have HF2 : Hid (∀ g, F2 g → w.heap.size ≤ g) := fun g hg => Nat.le_trans HB1.out.size (hf2 g hg)
  clear hd2 hf2 hb2 HB1
  go_wp2_with fail
  go_loopw [15] (fun vi wr => ∃ (k : Nat) (F : Nat → Prop), k ≤ n ∧ k ≤ 60 ∧ vi = .int .i64 k ∧ Hid (DocAt wr D (run l k) F) ∧ Hid (∀ g, F g → w.heap.size ≤ g) ∧ Hid (Below w.heap.size w wr)) (fun vi _ => 60 - (intOf vi).toNat)
  case atStart => exact ⟨0, F2, by omega, by omega, rfl, HD2, HF2, HB2⟩
  case round =>
    clear HD2 HF2 HB2
    obtain ⟨k, F, hk, hk60, rfl, HD, HF, HB⟩ := hrel
    go_upto_region 7 with fail
    go_cut [43] from 36 to 51 (fun s43 wx => ∃ t : Bool, s43 = .bool t ∧ Hid (t = decide (k < n ∧ k < 60)) ∧ wr = wx)
    case first =>
      by_cases h1 : k < n
      · have h1z : (k : Int) < n := by omega
        by_cases h2 : k < 60
        · have h2z : (k : Int) < 60 := by omega
          go_wp2_with fail
          go_meet
          case rel => exact ⟨true, rfl, (decide_eq_true ⟨h1, h2⟩).symm, rfl⟩
        · have h2z : ¬ (k : Int) < 60 := by omega
          have H2 : Hid (decide (k < n ∧ k < 60) = false) := decide_eq_false (fun h => h2 h.2)
          go_wp2_with fail
          go_meet
          case rel => exact ⟨false, by simp [h2], H2.out.symm, rfl⟩
      · have h1z : ¬ (k : Int) < n := by omega
        have H2 : Hid (decide (k < n ∧ k < 60) = false) := decide_eq_false (fun h => h1 h.1)
        go_wp2_with fail
        go_meet
        case rel => exact ⟨false, rfl, H2.out.symm, rfl⟩
    case rest =>
    obtain ⟨tt, rfl, HTT, rfl⟩ := hcut
    cases tt
    case true =>
      obtain ⟨hlt1, hlt2⟩ := of_decide_eq_true HTT.out.symm
      have hltz : (k : Int) < n := by omega
      have hkl : k < l.length := by rw [HN.out]; exact hlt1
      obtain ⟨bo, oo, rfl, hc⟩ := HLI.out.some (by intro e; rw [e] at hkl; simp at hkl)
      have ha0 := hc k hkl
      have hxm := HSZ.out _ (getO_mem hkl)
      have HRN : Hid (run l (k + 1) = apS (run l k) (l.getD k oz)) := run_next hkl
      obtain ⟨x, hx⟩ : ∃ x, x = l.getD k oz := ⟨_, rfl⟩
      rw [← hx] at ha0 hxm HRN
      obtain ⟨⟨xa, xb⟩, xt, xp, xc, xs⟩ := x
      obtain ⟨vx, ⟨g0, g1, g2, g3, g4, g5⟩, hdx0⟩ := ha0
      simp only at g0 g1 g2 g3 g4 g5 hdx0 hxm
      obtain ⟨pv, nv, cv, rfl⟩ : ∃ pv nv cv, vx = .slice pv nv cv := by obtain ⟨_, _, e9, _⟩ := hdx0; exact ⟨_, _, _, e9⟩
      have hlt' := World.block_lt_of_cell? _ _ g0
      have a0 := (HB.out.cell (p := ⟨bo, oo + k * 6, none⟩) hlt').trans g0
      have a1 := (HB.out.cell (p := ⟨bo, oo + k * 6 + 1, none⟩) hlt').trans g1
      have a2 := (HB.out.cell (p := ⟨bo, oo + k * 6 + 2, none⟩) hlt').trans g2
      have a3 := (HB.out.cell (p := ⟨bo, oo + k * 6 + 3, none⟩) hlt').trans g3
      have a4 := (HB.out.cell (p := ⟨bo, oo + k * 6 + 4, none⟩) hlt').trans g4
      have a5 := (HB.out.cell (p := ⟨bo, oo + k * 6 + 5, none⟩) hlt').trans g5
      have C := apply_any D (run l k) F xa xb xt xp xc (.slice pv nv cv) xs wr HD.out (hdx0.below HB.out) (off_old hdx0 HF.out) hxm
      clear hc hx hkl hxm hdx0 g0 g1 g2 g3 g4 g5 hlt'
      go_wp2_with fail
      refine C.mono ?_
      rintro e w9 ⟨he, _, F9, hd9, hc9, hf9⟩
      have HD9 : Hid (DocAt w9 D (run l (k + 1)) F9) := by unfold Hid; rw [HRN.out]; exact hd9
      have HB9 : Hid (Below w.heap.size w w9) := hc9.below HF.out HB.out HB.out.size
      have HF9 : Hid (∀ g, F9 g → w.heap.size ≤ g) := fun g hg => by
        rcases hf9 g hg with e | e
        · exact HF.out g e
        · exact Nat.le_trans HB.out.size e
      obtain ⟨ev, hev⟩ : ∃ ev, ev = Value.tuple #[.bool (isNew (run l k) ((xa, xb), xt, xp, xc, xs)), errV (apE (run l k) ((xa, xb), xt, xp, xc, xs))] := ⟨_, rfl⟩
      rw [← hev] at he
      subst he
      clear hd9 hc9 hf9 C a0 a1 a2 a3 a4 a5 hev HD HF HB
      go_wp2_with fail
      go_roundw
      case rel => exact ⟨k + 1, F9, by omega, by omega, by go_num, HD9, HF9, HB9⟩
      case measure => simp [intOf]; omega
    case false =>
      obtain ⟨S, hS⟩ : ∃ S, S = run l k := ⟨_, rfl⟩
      have HI : Hid (Inv S) := by unfold Hid; rw [hS]; exact run_inv l k
      have HLN : Hid (S.book.length ≤ 60 ∧ S.ops.length ≤ 60) := by
        have := run_len l k (by rw [HN.out]; exact hk)
        unfold Hid; rw [hS]; omega
      rw [← hS] at HD
      have CB := book_get D S F wr HD.out
      clear hS HSZ HLI HTT
      go_wp2_with fail
      refine CB.mono ?_
      rintro e w3 ⟨v3, rfl, hk3, hb3⟩
      obtain ⟨p3, n3, c3, rfl⟩ := at_shape hk3.1
      have HB3 : Hid (Below w.heap.size w w3) := bel HB.out hb3
      have HD3 : Hid (DocAt w3 D S F) := HD.out.below hb3
      have CA := anchor_any _ S.book at_ w3 hk3.1 (small_book HI.out.book)
      clear CB hk3 hb3 HD
      by_cases ha0 : anchE S.book at_ = 0
      case neg =>
        have ha := anchE_iff (f := at_) HI.out.book
        have hor : at_ < 0 ∨ ((Lf.textR S.book).size : Int) < at_ := by
          by_cases h9 : at_ < 0 ∨ ((Lf.textR S.book).size : Int) < at_
          · exact h9
          · rw [if_neg h9] at ha; exact absurd ha ha0
        rw [if_pos hor] at ha
        rw [ha, errV_ne (by decide)] at CA
        obtain ⟨P, hP⟩ : ∃ P, P = anchR S.book at_ := ⟨_, rfl⟩
        rw [← hP] at CA
        clear ha0 ha hP
        go_wp2_with fail
        refine CA.mono ?_
        rintro e w4 ⟨rfl, hb4⟩
        have HB4 : Hid (Below w.heap.size w w4) := bel HB3.out hb4
        have CT := text_get D S F w4 (HD3.out.below hb4)
        have h300 : (Lf.textR S.book).size ≤ 300 := by rw [textR_size HI.out.book]; exact text_300 HI.out.book
        obtain ⟨T, hT⟩ : ∃ T, T = Lf.textR S.book := ⟨_, rfl⟩
        rw [← hT] at CT hor h300
        clear hb4 CA hT
        by_cases hlo : at_ < 0
        · clear CT hor
          go_wp2_with fail
          go_ret
          exact ⟨by first | rfl | (refine ret_bool ?_; simp), HB4.out⟩
        · have hhi : (T.size : Int) < at_ := by omega
          clear hor
          go_wp2_with fail
          refine CT.mono ?_
          rintro e w5 ⟨rfl, hb5⟩
          have HB5 : Hid (Below w.heap.size w w5) := bel HB4.out hb5
          clear hb5 CT
          go_wp2_with fail
          go_ret
          exact ⟨by first | rfl | (refine ret_bool ?_; simp; try omega), HB5.out⟩
      case pos =>
      have HH : Hid (Held S.book at_ (anchR S.book at_)) := anch_held HI.out.book ha0
      have hrange : 0 ≤ at_ ∧ at_ ≤ 300 := by
        have ha := anchE_iff (f := at_) HI.out.book
        rw [ha0] at ha
        have h300 : (Lf.textR S.book).size ≤ 300 := by rw [textR_size HI.out.book]; exact text_300 HI.out.book
        by_cases h9 : at_ < 0 ∨ ((Lf.textR S.book).size : Int) < at_
        · rw [if_pos h9] at ha; cases ha
        · omega
      rw [ha0, errV_zero] at CA
      obtain ⟨P, hP⟩ : ∃ P, P = anchR S.book at_ := ⟨_, rfl⟩
      rw [← hP] at CA HH
      clear ha0 hP
      go_wp2_with fail
      refine CA.mono ?_
      rintro e w4 ⟨rfl, hb4⟩
      have HB4 : Hid (Below w.heap.size w w4) := bel HB3.out hb4
      have HD4 : Hid (DocAt w4 D S F) := HD3.out.below hb4
      have CB := book_get D S F w4 HD4.out
      clear hb4 CA HD3 HB3
      go_wp2_with fail
      refine CB.mono ?_
      rintro e w5 ⟨v5, rfl, hk5, hb5⟩
      obtain ⟨p5, n5, c5, rfl⟩ := at_shape hk5.1
      have HB5 : Hid (Below w.heap.size w w5) := bel HB4.out hb5
      have HD5 : Hid (DocAt w5 D S F) := HD4.out.below hb5
      obtain ⟨hr0, hr1, hr2⟩ := held_res HI.out.book HH.out
      have HPM : Hid (P.size ≤ maxLen) := by unfold Hid maxLen; omega
      have CR := resolve_any _ S.book P w5 hk5.1 (small_book HI.out.book) HPM.out
      rw [hr1, hr2, errV_zero] at CR
      clear CB hk5 hb5 HD4 HB4 hr0 hr1 hr2
      go_wp2_with fail
      refine CR.mono ?_
      rintro e w6 ⟨rfl, hb6⟩
      have HB6 : Hid (Below w.heap.size w w6) := bel HB5.out hb6
      have HD6 : Hid (DocAt w6 D S F) := HD5.out.below hb6
      have HL6 : Hid (∀ g, F g → g < w6.heap.size) := HD6.out.lt
      have CI := insert_any D S F who off t w6 HD6.out HTM.out
      clear CR hb6 HD5 HB5
      have haeq : (at_ == at_) = true := by simp
      by_cases hx0 : insE S who off t = 0
      case neg =>
        obtain ⟨ez, hez⟩ : ∃ ez, ez = insE S who off t := ⟨_, rfl⟩
        rw [← hez] at CI hx0
        have HX0 : Hid (ez ≠ 0) := hx0
        clear hez hx0
        go_wp2_with fail
        refine CI.mono ?_
        rintro e w7 ⟨v7, he, _, hv7, hb7⟩
        have := hv7 HX0.out
        subst this
        rw [errV_ne HX0.out] at he
        subst he
        have HB7 : Hid (Below w.heap.size w w7) := bel HB6.out hb7
        clear CI hv7 hb7
        go_wp2_with fail
        go_ret
        exact ⟨rfl, HB7.out⟩
      case pos =>
      have HXM := ops_max HI.out hx0
      have HOX : Hid (InsOk S who off t) := insE_zero.1 hx0
      have ht200 : t.size ≤ 200 := HOX.out.few
      have hst := stays HI.out HOX.out HLN.out.1 HLN.out.2 HH.out
      obtain ⟨X, hX⟩ : ∃ X, X = insL S who off t := ⟨_, rfl⟩
      rw [hx0, ← hX] at CI
      rw [← hX] at hst HXM
      have HST : Hid (runE S X = 0 ∧ resE (runS S X).book P = 0 ∧ resR (runS S X).book P = if off ≤ at_ then at_ + t.size else at_) := hst
      have HXM : Hid (∀ x ∈ X, x.2.2.1.size ≤ maxLen) := HXM
      clear hx0 hX hst
      go_wp2_with fail
      refine CI.mono ?_
      rintro e w7 ⟨v7, he, hv7, _, hb7⟩
      rw [errV_zero] at he
      subst he
      obtain ⟨p7, n7, c7, rfl⟩ := new_shape (hv7 rfl)
      have HO7 : Hid (OpsG (fun g => w6.heap.size ≤ g ∧ g < w7.heap.size) w7 (.slice p7 n7 c7) X) := OpsG.new (hv7 rfl)
      have HB7 : Hid (Below w.heap.size w w7) := bel HB6.out hb7
      have CD : Calls Try.prog 17 #[.pointer (some ⟨D, 0, none⟩), .slice p7 n7 c7] w7 (DoPost w7 D S F X) := do_any D S F _ _ X w7 (HD6.out.below hb7) HO7.out (fun g hg => ⟨hg.2, fun e => by have := HL6.out g e; have := hg.1; omega⟩) HXM.out
      clear CI hv7 hb7 HD6 HB6
      go_wp2_with fail
      refine CD.mono ?_
      rintro e w8 ⟨he, F8, hd8, hc8, hf8⟩
      rw [HST.out.1, errV_zero] at he
      subst he
      have HB8 : Hid (Below w.heap.size w w8) := hc8.below HF.out HB7.out HB7.out.size
      obtain ⟨S2, hS2⟩ : ∃ S2, S2 = runS S X := ⟨_, rfl⟩
      have HI2 : Hid (Inv S2) := by unfold Hid; rw [hS2]; exact Um.run_inv X HI.out
      rw [← hS2] at hd8 HST
      have CB := book_get D S2 F8 w8 hd8
      clear CD hd8 hc8 hf8 hS2 HO7 HL6 HB7
      go_wp2_with fail
      refine CB.mono ?_
      rintro e w9 ⟨v9, rfl, hk9, hb9⟩
      obtain ⟨p9, n9, c9, rfl⟩ := at_shape hk9.1
      have HB9 : Hid (Below w.heap.size w w9) := bel HB8.out hb9
      have CR := resolve_any _ S2.book P w9 hk9.1 (small_book HI2.out.book) HPM.out
      rw [HST.out.2.1, HST.out.2.2, errV_zero] at CR
      clear CB hk9 hb9 HB8
      by_cases hoa : off ≤ at_
      · rw [if_pos hoa] at CR
        have hwr : IntKind.i64.wrap (at_ + (t.size : Int)) = at_ + (t.size : Int) := Oz.wrap_in (by omega) (by omega)
        go_wp2_with fail
        refine CR.mono ?_
        rintro e w10 ⟨rfl, hb10⟩
        have HB10 : Hid (Below w.heap.size w w10) := bel HB9.out hb10
        clear CR hb10
        go_wp2_with fail
        go_ret
        exact ⟨by first | rfl | (refine ret_bool ?_; simp), HB10.out⟩
      · rw [if_neg hoa] at CR
        go_wp2_with fail
        refine CR.mono ?_
        rintro e w10 ⟨rfl, hb10⟩
        have HB10 : Hid (Below w.heap.size w w10) := bel HB9.out hb10
        clear CR hb10
        go_wp2_with fail
        go_ret
        exact ⟨by first | rfl | (refine ret_bool ?_; simp), HB10.out⟩

end Ce
end Go.Proofs.Ytonbohekiliepaa
