/- TopCached's walk. -/
import Derived.Test.YtllcmfbkingfdaaGreatYh
import Derived.Test.YtllcmfbkingfdaaGreatYi
import Derived.Test.YtllcmfbkingfdaaGreatFu
import Derived.Test.YtllcmfbkingfdaaGreatSf
import Derived.Test.YtllcmfbkingfdaaGreatIv
import Derived.Deep.DeepCutAuto
import Derived.Deep.RegionHeld3
namespace Go.Proofs.YtllcmfbkingfdaaGreat
namespace Yj
set_option linter.unusedVariables false
set_option linter.unusedSimpArgs false
open Go.ChangeShapes Go.WideShapes Go.ChangeAt Go.RowKit Cm Ka Kb Na Om Oa Oz Oc Og Oi Hm Ia Ib Ic Idc Ie If Ig Ih Ii Ij Ik Il Im Yh
open La (bel bel_drew errV_zero errV_ne own_ge own_grow own_below Lies LeafsIn)
open Iq (run run_next run_inv off_old)

open Lj (BookAt)
open Sm (heads stretches stOf beg)
open Sd (locO locE locI locJ sliE sliR dirE)
open Yi (sl hd Hon)
open Fb (Kp get? getS getE loadS loadE used newE)
open Fu (At Lft)

theorem Hid.mk' {p : Prop} (h : p) : Hid p := h
theorem mark_place {m : Mk} (h : markE m = 0) : Pm.chk m.1.toList = 0 := by
  unfold markE at h
  by_cases e : Pm.chk m.1.toList = 0
  · exact e
  · rw [if_pos e] at h; exact h
theorem small_marks {l : List Mk} (h : marksE l = 0) : ∀ x ∈ l, x.1.size ≤ maxLen := fun x hx => small_place (mark_place ((marksE_zero.1 h).2.1 x hx))
theorem new_ok (b : Int) (w : World) (h : newE b = 0) : Calls Tryz.prog 7 #[.int .i64 b] w fun e w' => ∃ X F, e = .returned (.tuple #[Fc.ptr X, .nilIface]) ∧ At w' X b.toNat [] F ∧ (∀ g, F g → w.heap.size ≤ g) ∧ Below w.heap.size w w' := by
  refine (Fu.cache_new b w).mono ?_
  rintro e w' ⟨h1 | ⟨_, X, F, h2, h3, h4⟩, hb⟩
  · exact absurd h h1.1
  · exact ⟨X, F, h2, h3, h4, hb⟩
/- the cache; nothing else that was there in w9 has changed -/
structure Tc (w9 wr : World) (X b : Nat) (K : List Kp) (F9 F : Nat → Prop) : Prop where
  ca : At wr X b K F
  sub : ∀ x, F x → F9 x ∨ w9.heap.size ≤ x
  chg : Ef.Chg F9 w9 wr
theorem Tc.below {w9 wr w' : World} {X b : Nat} {K : List Kp} {F9 F : Nat → Prop} (h : Tc w9 wr X b K F9 F) (hb : Below wr.heap.size wr w') : Tc w9 w' X b K F9 F := ⟨h.ca.below hb, h.sub, h.chg.trans (Ef.Chg.ofBelow hb _)⟩
theorem Tc.set {w9 wr w' : World} {X b : Nat} {K K' : List Kp} {F9 F : Nat → Prop} (h : Tc w9 wr X b K F9 F) (hl : Lft wr X b F K' w') : ∃ F', Tc w9 w' X b K' F9 F' := by
  obtain ⟨F', h1, h2, h3⟩ := hl
  refine ⟨F', h1, fun x hx => ?_, h.chg.next h2 h.sub⟩
  rcases h3 x hx with e | e
  · exact h.sub x e
  · exact Or.inr (Nat.le_trans h.chg.size e)
theorem st_place {w : World} {g n c : Nat} {l : List Bm.Leaf} {m : List Mk} (h : MksAt w (.slice (some ⟨g, 0, none⟩) n c) (stretches l m)) {k : Nat} (hk : k < (heads m).length) : w.cell? ⟨g, k * 3, none⟩ = some (.string (hd m k)) := by
  have h9 := (Sf.mks_at h k hk).1
  rw [Nat.zero_add] at h9
  exact h9
theorem used_same (X b : Nat) (K : List Kp) (F : Nat → Prop) (w : World) (h : At w X b K F) : Calls Tryz.prog 16 #[Fc.ptr X] w fun e w' => e = .returned (.int .i64 (used K)) ∧ Below w.heap.size w w' := Fu.cache_used X b K F w h
set_option maxRecDepth 100000 in
set_option maxHeartbeats 16000000 in
theorem walk (vl : Value) (l : List Ox) (bu : Int) (va : Value) (A : List Int) (w : World) (hl : OpsAt w vl l) (hsz : ∀ x ∈ l, x.2.2.1.size ≤ maxLen) (hA : KnAt w va A) :
    Calls Tryz.prog 3 #[vl, .int .i64 bu, va] w fun e w' => e = .returned (.bool true) ∧ Below w.heap.size w w' := by
  obtain ⟨ql, cl, rfl, hlin, _⟩ := hl
  obtain ⟨pa, ca, rfl, hai⟩ := hA
  obtain ⟨n, hn⟩ : ∃ n, n = l.length := ⟨_, rfl⟩
  obtain ⟨na, hna⟩ : ∃ na, na = A.length := ⟨_, rfl⟩
  rw [← hn, ← hna]
  have HN : Hid (l.length = n) := hn.symm
  have HNA : Hid (A.length = na) := hna.symm
  have HLI : Hid (OpsIn w ql l) := hlin
  have HSZ : Hid (∀ x ∈ l, x.2.2.1.size ≤ maxLen) := hsz
  have HAI : Hid (Za.IntsIn w pa A) := hai
  clear hlin hsz hn hna hai
  go_enter Tryz.func3, Tryz.ntmps3
  go_wp2_with fail
  refine (one_any w).mono ?_
  rintro e w1 ⟨rfl, hb1⟩
  have HB1 := Hid.mk' hb1
  clear hb1
  go_wp2_with fail
  refine (new_any w1).mono ?_
  rintro e w2 ⟨D, F2, rfl, hd2, hf2, hb2⟩
  have HD2 : Hid (DocAt w2 D (run l 0) F2) := hd2
  have HB2 : Hid (Below w.heap.size w w2) := bel HB1.out hb2
  have HF2 : Hid (∀ g, F2 g → w.heap.size ≤ g) := fun g hg => Nat.le_trans HB1.out.size (hf2 g hg)
  clear hd2 hf2 hb2 HB1
  go_wp2_with fail
  go_loopw [9] (fun vi wr => ∃ (k : Nat) (F : Nat → Prop), k ≤ n ∧ k ≤ 60 ∧ vi = .int .i64 k ∧ Hid (DocAt wr D (run l k) F) ∧ Hid (∀ g, F g → w.heap.size ≤ g) ∧ Hid (Below w.heap.size w wr)) (fun vi _ => 60 - (intOf vi).toNat)
  case atStart => exact ⟨0, F2, by omega, by omega, rfl, HD2, HF2, HB2⟩
  case round =>
    clear HD2 HF2 HB2
    obtain ⟨k, F, hk, hk60, rfl, HD, HF, HB⟩ := hrel
    go_upto_region 6 with fail
    go_cut [32] from 25 to 40 (fun s32 wx => ∃ t : Bool, s32 = .bool t ∧ Hid (t = decide (k < n ∧ k < 60)) ∧ wr = wx)
    case first =>
      by_cases h1 : k < n
      · have h1z : (k : Int) < n := by omega
        by_cases h2 : k < 60
        · have h2z : (k : Int) < 60 := by omega
          go_wp2_with fail
          go_meet
          case rel => exact ⟨true, rfl, (decide_eq_true ⟨h1, h2⟩).symm, rfl⟩
        · have h2z : ¬ (k : Int) < 60 := by omega
          have H2 : Hid (decide (k < n ∧ k < 60) = false) := decide_eq_false (fun h => h2 h.2)
          go_wp2_with fail
          go_meet
          case rel => exact ⟨false, by simp [h2], H2.out.symm, rfl⟩
      · have h1z : ¬ (k : Int) < n := by omega
        have H2 : Hid (decide (k < n ∧ k < 60) = false) := decide_eq_false (fun h => h1 h.1)
        go_wp2_with fail
        go_meet
        case rel => exact ⟨false, rfl, H2.out.symm, rfl⟩
    case rest =>
    obtain ⟨tt, rfl, HTT, hwx⟩ := hcut
    subst hwx
    cases tt
    case true =>
      obtain ⟨hlt1, hlt2⟩ := of_decide_eq_true HTT.out.symm
      have hltz : (k : Int) < n := by omega
      have hkl : k < l.length := by rw [HN.out]; exact hlt1
      obtain ⟨bo, oo, rfl, hc⟩ := HLI.out.some (by intro e; rw [e] at hkl; simp at hkl)
      have ha0 := hc k hkl
      have hxm := HSZ.out _ (getO_mem hkl)
      have HRN : Hid (run l (k + 1) = apS (run l k) (l.getD k oz)) := run_next hkl
      obtain ⟨x, hx⟩ : ∃ x, x = l.getD k oz := ⟨_, rfl⟩
      rw [← hx] at ha0 hxm HRN
      obtain ⟨⟨xa, xb⟩, xt, xp, xc, xss⟩ := x
      obtain ⟨vx, ⟨g0, g1, g2, g3, g4, g5⟩, hdx0⟩ := ha0
      simp only at g0 g1 g2 g3 g4 g5 hdx0 hxm
      obtain ⟨pv, nv, cv, rfl⟩ : ∃ pv nv cv, vx = .slice pv nv cv := by obtain ⟨_, _, e9, _⟩ := hdx0; exact ⟨_, _, _, e9⟩
      have C := apply_any D (run l k) F xa xb xt xp xc (.slice pv nv cv) xss wr HD.out (hdx0.below HB.out) (off_old hdx0 HF.out) hxm
      have a0 := keep_cell HB.out g0
      have a1 := keep_cell HB.out g1
      have a2 := keep_cell HB.out g2
      have a3 := keep_cell HB.out g3
      have a4 := keep_cell HB.out g4
      have a5 := keep_cell HB.out g5
      clear hc hx hkl hxm hdx0 g0 g1 g2 g3 g4 g5
      go_wp2_with fail
      refine C.mono ?_
      rintro e w9 ⟨he, _, F9, hd9, hc9, hf9⟩
      have HD9 : Hid (DocAt w9 D (run l (k + 1)) F9) := by unfold Hid; rw [HRN.out]; exact hd9
      have HB9 : Hid (Below w.heap.size w w9) := hc9.below HF.out HB.out HB.out.size
      have HF9 : Hid (∀ g, F9 g → w.heap.size ≤ g) := fun g hg => by
        rcases hf9 g hg with e | e
        · exact HF.out g e
        · exact Nat.le_trans HB.out.size e
      obtain ⟨ev, hev⟩ : ∃ ev, ev = Value.tuple #[.bool (isNew (run l k) ((xa, xb), xt, xp, xc, xss)), errV (apE (run l k) ((xa, xb), xt, xp, xc, xss))] := ⟨_, rfl⟩
      rw [← hev] at he
      subst he
      clear hd9 hc9 hf9 C a0 a1 a2 a3 a4 a5 hev HD HF HB
      go_wp2_with fail
      go_roundw
      case rel => exact ⟨k + 1, F9, by omega, by omega, by go_num, HD9, HF9, HB9⟩
      case measure => simp [intOf]; omega
    case false =>
      clear HTT HLI HSZ HN
      obtain ⟨S, hS⟩ : ∃ S, S = run l k := ⟨_, rfl⟩
      rw [← hS] at HD
      have HI : Hid (Inv S) := HD.out.inv
      clear hS
      by_cases hbu : bu < 1 ∨ 10000 < bu
      · have C1 := Fu.new_bad bu wr hbu
        rcases (show bu < 1 ∨ (¬ bu < 1 ∧ 10000 < bu) by omega) with h1 | ⟨h1, h2⟩
        all_goals
          clear hbu
          go_wp2_with fail
          refine C1.mono ?_
          rintro e w3 ⟨rfl, hw⟩
          have hw2 := hw.symm; subst hw2; clear hw C1
          go_wp2_with fail
          go_ret
          exact ⟨rfl, HB.out⟩
      · obtain ⟨b, rfl⟩ : ∃ b : Nat, bu = b := ⟨bu.toNat, by omega⟩
        have he : newE b = 0 := by unfold newE; rw [if_neg hbu]
        have C1 := new_ok b wr he
        rw [Int.toNat_natCast] at C1
        have hb9 : b ≤ 10000 := by omega
        clear he hbu
        go_wp2_with fail
        refine C1.mono ?_
        rintro e w3 ⟨X, F0, rfl, hx3, hf3, hb3⟩
        have HX3 := Hid.mk' hx3
        have HF3 : Hid (∀ g, F0 g → wr.heap.size ≤ g) := hf3
        have HD3 := Hid.mk' (HD.out.below hb3)
        have HB3 : Hid (Below w.heap.size w w3) := bel HB.out hb3
        have HFD : Hid (∀ g, F g → ¬ F0 g) := fun g h1 h2 => by have e1 := HD.out.lt g h1; have e2 := hf3 g h2; omega
        have CT := text_get D S F w3 HD3.out
        have htx0 : Lf.textR S.book = ⟨(Bm.text S.book).toArray⟩ := by unfold Lf.textR; rw [if_pos HI.out.book]
        rw [htx0] at CT
        obtain ⟨tx, htx⟩ : ∃ tx : ByteArray, tx = ⟨(Bm.text S.book).toArray⟩ := ⟨_, rfl⟩
        rw [← htx] at CT
        have HTX := Hid.mk' htx
        clear hx3 hf3 hb3 C1 htx htx0
        go_wp2_with fail
        refine CT.mono ?_
        rintro e w4 ⟨rfl, hb4⟩
        have HX4 := Hid.mk' (HX3.out.below hb4)
        have HD4 := Hid.mk' (HD3.out.below hb4)
        have HB4 : Hid (Below w.heap.size w w4) := bel HB3.out hb4
        have CB := book_get D S F w4 HD4.out
        obtain ⟨lb, hlb⟩ : ∃ lb, lb = S.book.length := ⟨_, rfl⟩
        have HLB : Hid (S.book.length = lb) := hlb.symm
        clear hb4 CT hlb HD HD3 HX3 HB3
        go_wp2_with fail
        refine CB.mono ?_
        rintro e w5 ⟨vb, rfl, hk5, hb5⟩
        obtain ⟨qb, cb, rfl, hbi, hbc, hbm, _⟩ := hk5.1
        rw [HLB.out]
        have HBI : Hid (LeafsIn w5 qb S.book ∧ S.book.length ≤ cb ∧ cb ≤ maxLen) := ⟨hbi, hbc, hbm⟩
        have HX5 := Hid.mk' (HX4.out.below hb5)
        have HD5 := Hid.mk' (HD4.out.below hb5)
        have HB5 : Hid (Below w.heap.size w w5) := bel HB4.out hb5
        have CM := marks_get D S F w5 HD5.out
        clear CB hk5 hbi hbc hbm hb5 HD4 HX4 HB4
        go_wp2_with fail
        refine CM.mono ?_
        rintro e w6 ⟨vm, rfl, hk6, hb6⟩
        obtain ⟨pm, nm, cm, rfl⟩ : ∃ p n c, vm = .slice p n c := by obtain ⟨p, c, e, _⟩ := hk6.1; exact ⟨_, _, _, e⟩
        have HX6 := Hid.mk' (HX5.out.below hb6)
        have HD6 := Hid.mk' (HD5.out.below hb6)
        have HB6 : Hid (Below w.heap.size w w6) := bel HB5.out hb6
        have CS := Sf.stretches_dir qb lb cb S.book (.slice pm nm cm) S.marks w6 HLB.out (HBI.out.1.below hb6) (small_book HI.out.book) (by rw [← HLB.out]; exact HBI.out.2.1) HBI.out.2.2 hk6.1 (small_marks HI.out.marks)
        have hdz : dirE S.book S.marks = 0 := Sd.dirE_zero.2 ⟨HI.out.book, HI.out.marks⟩
        rw [hdz, errV_zero] at CS
        have HDZ := Hid.mk' hdz
        clear CM hk6 hb6 HD5 HX5 HB5 HBI hdz
        go_wp2_with fail
        refine CS.mono ?_
        rintro e w9 ⟨v9, rfl, hst9, hb9', hv9, _⟩
        obtain ⟨g9, cd9, rfl, hg9⟩ := hv9 HDZ.out
        obtain ⟨nh, hnh⟩ : ∃ nh, nh = (heads S.marks).length := ⟨_, rfl⟩
        rw [← hnh] at hst9 ⊢
        have HNH : Hid (nh = (heads S.marks).length) := hnh
        have HST : Hid (∀ k, k < nh → w9.cell? ⟨g9, k * 3, none⟩ = some (.string (hd S.marks k))) := fun k hk => st_place (by have h9 := hst9; rw [Sf.stD_ok HDZ.out] at h9; exact h9) (by rw [← hnh]; exact hk)
        have HX9 := Hid.mk' (HX6.out.below hb9')
        have HD9 := Hid.mk' (HD6.out.below hb9')
        have HB9 : Hid (Below w.heap.size w w9) := bel HB6.out hb9'
        have HG9 : Hid (¬ F0 g9) := fun e => by have h1 := HX6.out.lt g9 e; omega
        have HKC : Hid (∀ W, Ef.Chg F0 w9 W → DocAt W D S F ∧ (∀ k, k < nh → W.cell? ⟨g9, k * 3, none⟩ = some (.string (hd S.marks k))) ∧ Below w.heap.size w W) := fun W hc =>
          ⟨HD9.out.stay (fun g hg => hc.block g (HD9.out.lt g hg) (HFD.out g hg)) hc.size, fun k hk => (Ef.cell_stay (hc.block g9 (World.block_lt_of_cell? _ _ (HST.out k hk)) HG9.out)).trans (HST.out k hk), hc.below (fun g hg => Nat.le_trans HB.out.size (HF3.out g hg)) HB9.out HB9.out.size⟩
        have HT9 : Hid (Tc w9 w9 X b [] F0 F0) := ⟨HX9.out, fun x hx => Or.inl hx, Ef.Chg.refl _ _⟩
        have CBK : Hid (∀ W, Ef.Chg F0 w9 W → Calls Tryz.prog 10 #[.pointer (some ⟨D, 0, none⟩)] W fun e w' => ∃ q c, e = .returned (.slice q lb c) ∧ (LeafsIn w' q S.book ∧ lb ≤ c ∧ c ≤ maxLen) ∧ Below W.heap.size W w') := fun W hc => (book_get D S F W (HKC.out W hc).1).mono (by
          rintro e w' ⟨v', rfl, hk', hb'⟩
          obtain ⟨q, c, e9, h1, h2, h3, _⟩ := hk'.1
          rw [HLB.out] at e9 h2
          exact ⟨q, c, by rw [e9], ⟨h1, h2, h3⟩, hb'⟩)
        have CMK : Hid (∀ W, Ef.Chg F0 w9 W → Calls Tryz.prog 11 #[.pointer (some ⟨D, 0, none⟩)] W fun e w' => ∃ p n c, e = .returned (.slice p n c) ∧ MksAt w' (.slice p n c) S.marks ∧ Below W.heap.size W w') := fun W hc => (marks_get D S F W (HKC.out W hc).1).mono (by
          rintro e w' ⟨v', rfl, hk', hb'⟩
          obtain ⟨p, n, c, rfl⟩ : ∃ p n c, v' = .slice p n c := by obtain ⟨p, c, e, _⟩ := hk'.1; exact ⟨_, _, _, e⟩
          exact ⟨p, n, c, rfl, hk'.1, hb'⟩)
        have CLO : Hid (∀ (f : Int) (W : World) q c p n2 c2, (LeafsIn W q S.book ∧ lb ≤ c ∧ c ≤ maxLen) → MksAt W (.slice p n2 c2) S.marks → Calls Tryz.prog 12 #[.slice q lb c, .slice p n2 c2, .int .i64 f] W fun e w' => e = .returned (.tuple #[.int .i64 (locI S.book S.marks f : Int), .int .i64 (locJ S.book S.marks f), errV (locE S.book S.marks f)]) ∧ Below W.heap.size W w') := fun f W q c p n2 c2 h1 h2 => Sf.locate_any q lb c S.book (.slice p n2 c2) S.marks f W HLB.out h1.1 (small_book HI.out.book) h1.2.1 h1.2.2 h2 (small_marks HI.out.marks)
        have CSL : Hid (∀ (k : Nat) (W : World) q c p n2 c2, k < nh → (LeafsIn W q S.book ∧ lb ≤ c ∧ c ≤ maxLen) → MksAt W (.slice p n2 c2) S.marks → Calls Tryz.prog 14 #[.slice q lb c, .slice p n2 c2, .int .i64 k] W fun e w' => e = .returned (.tuple #[.string (sl S.book S.marks k), .nilIface]) ∧ Below W.heap.size W w') := fun k W q c p n2 c2 hk h1 h2 => by
          have h9 := Sf.slice_any q lb c S.book (.slice p n2 c2) S.marks k W HLB.out h1.1 (small_book HI.out.book) h1.2.1 h1.2.2 h2 (small_marks HI.out.marks)
          obtain ⟨s1, s2⟩ := Sf.sliE_in (l := S.book) (m := S.marks) (k := k) HDZ.out (by rw [← HNH.out]; exact hk)
          rw [s1, s2, errV_zero] at h9
          exact h9
        clear CS hst9 hb9' hv9 hg9 hnh HX6 HD6 HB6 HX9 HD9 HST HG9 HFD HF3
        go_wp2_with fail
        go_loopw [14] (fun v14 wx => ∃ (i : Nat) (K : List Kp) (Fk : Nat → Prop), i ≤ na ∧ i ≤ 40 ∧ v14 = .int .i64 i ∧ Hid (Tc w9 wx X b K F0 Fk) ∧ Hid (Hon S.book S.marks K) ∧ Hid (K.length ≤ i)) (fun v14 _ => 40 - (intOf v14).toNat)
        case atStart => exact ⟨0, [], F0, by omega, by omega, rfl, HT9, Hon.nil _ _, Nat.zero_le _⟩
        case round =>
          clear HT9
          obtain ⟨i, K, Fk, hi, hi40, rfl, HTK, HGK, HLK⟩ := hrel
          by_cases hlt : i < na
          · by_cases hlt4 : i < 40
            · have hltz : (i : Int) < na := by omega
              have hl4z : (i : Int) < 40 := by omega
              obtain ⟨ba, oa, rfl, hac⟩ := HAI.out.some (by intro e; have := HNA.out; rw [e] at this; simp at this; omega)
              obtain ⟨f, hf⟩ : ∃ f, f = A.getD i 0 := ⟨_, rfl⟩
              have HAT : Hid (∀ W, Ef.Chg F0 w9 W → W.cell? ⟨ba, oa + i, none⟩ = some (.int .i64 f)) := fun W hc => by
                rw [hf]
                exact keep_cell (HKC.out W hc).2.2 (hac i (by rw [HNA.out]; exact hlt))
              have HFT : Hid (Fc.Fit b K) := ⟨hb9, by have := HLK.out; omega⟩
              clear hf hac
              have HCB : Hid (∀ W, Below wr.heap.size wr W → Ef.Chg F0 w9 W) := fun W hb => HTK.out.chg.trans (Ef.Chg.ofBelow hb _)
              cases hlo : locO S.book S.marks f with
              | none =>
                as_aux_lemma =>
                  obtain ⟨e1, e2, e3⟩ := Sf.locE_none HDZ.out hlo
                  have CLF : Hid (∀ (W : World) q c p n2 c2, (LeafsIn W q S.book ∧ lb ≤ c ∧ c ≤ maxLen) → MksAt W (.slice p n2 c2) S.marks → Calls Tryz.prog 12 #[.slice q lb c, .slice p n2 c2, .int .i64 f] W fun e w' => e = .returned (.tuple #[.int .i64 0, .int .i64 0, .iface 69 (.int .i64 1)]) ∧ Below W.heap.size W w') := fun W q c p n2 c2 h1 h2 => by
                    have h9 := CLO.out f W q c p n2 c2 h1 h2
                    rw [e1, e2, e3, errV_ne (by decide)] at h9
                    exact h9
                  have hout : f < 0 ∨ ((tx.size : Nat) : Int) ≤ f := by
                    rcases Sd.loc_out hlo with e | e
                    · exact Or.inl e
                    · right; rw [HTX.out]; simpa [ByteArray.size] using e
                  have htm : (tx.size : Int) ≤ 9223372036854775807 := by
                    have h1 := few_book HI.out
                    have h2 : (Bm.text S.book).length ≤ S.book.length := by unfold Bm.text; rw [List.length_map]; exact List.length_filter_le _ _
                    rw [HTX.out]
                    show ((Bm.text S.book).toArray.size : Int) ≤ _
                    rw [List.size_toArray]
                    omega
                  clear e1 e2 e3 hlo
                  rcases (show f < 0 ∨ (0 ≤ f ∧ ((tx.size : Nat) : Int) ≤ f) by omega) with hf1 | ⟨hf1, hf2⟩
                  all_goals
                    clear hout
                    have c14 := HAT.out _ HTK.out.chg
                    go_wp2_with fail
                    go_region_held3 (fun W => W.cell? ⟨ba, oa + i, none⟩ = some (.int .i64 f)) (first | (go_keep; done) | (refine keep_cell hb9r ?_; (first | assumption | (go_split_ands; assumption))) | (refine keep_cell hb8r ?_; (first | assumption | (go_split_ands; assumption))) | (refine keep_cell hb7r ?_; (first | assumption | (go_split_ands; assumption)))) (first
                      | (go_at_call 10; refine (CBK.out _ (HCB.out _ (Below.refl _ wr).drew)).mono ?_; rintro e w10 ⟨q10, c10, rfl, hk10, hb7r⟩; have HB10 : Hid (Below wr.heap.size wr w10) := bel (Below.refl _ wr).drew hb7r; have HK10 := Hid.mk' hk10; clear hk10)
                      | (go_at_call 11; refine (CMK.out _ (HCB.out _ HB10.out)).mono ?_; rintro e w11 ⟨p11, n11, c11, rfl, hm11, hb8r⟩; have HB11 : Hid (Below wr.heap.size wr w11) := bel HB10.out hb8r; have HK11 : Hid (LeafsIn w11 q10 S.book ∧ lb ≤ c10 ∧ c10 ≤ maxLen) := ⟨HK10.out.1.below hb8r, HK10.out.2⟩; have HM11 := Hid.mk' hm11; clear hm11)
                      | (go_at_call 12; refine (CLF.out _ _ _ _ _ _ HK11.out HM11.out).mono ?_; rintro e w12 ⟨rfl, hb9r⟩; have HB12 : Hid (Below wr.heap.size wr w12) := bel HB11.out hb9r))
                    all_goals
                      clear hb7r hb8r hb9r HB10 HK10 HB11 HK11 HM11 c14
                      have HT12 := Hid.mk' (HTK.out.below HB12.out)
                      have c12 := HAT.out _ HT12.out.chg
                      go_wp2_with fail
                      go_roundw
                      case rel => exact ⟨i + 1, K, Fk, by omega, by omega, by go_num, HT12, HGK, by have := HLK.out; show K.length ≤ i + 1; omega⟩
                      case measure => simp [intOf]; omega
              | some k =>
                obtain ⟨e1, e2, e3⟩ := Sf.locE_some HDZ.out hlo
                obtain ⟨hkh, o, j, hfo, hfj, hj1, ho1, hch⟩ := Yi.letter_at (Lf.book_ok HI.out.book).2.1 HI.out.marks hlo
                have hkn : k < nh := by rw [HNH.out]; exact hkh
                rw [hfj] at e3
                have CLF : Hid (∀ (W : World) q c p n2 c2, (LeafsIn W q S.book ∧ lb ≤ c ∧ c ≤ maxLen) → MksAt W (.slice p n2 c2) S.marks → Calls Tryz.prog 12 #[.slice q lb c, .slice p n2 c2, .int .i64 f] W fun e w' => e = .returned (.tuple #[.int .i64 k, .int .i64 j, .nilIface]) ∧ Below W.heap.size W w') := fun W q c p n2 c2 h1 h2 => by
                  have h9 := CLO.out f W q c p n2 c2 h1 h2
                  rw [e1, e2, e3, errV_zero] at h9
                  exact h9
                obtain ⟨part, hpart⟩ : ∃ part, part = sl S.book S.marks k := ⟨_, rfl⟩
                obtain ⟨hp, hhp⟩ : ∃ hp, hp = hd S.marks k := ⟨_, rfl⟩
                have HPT := Hid.mk' hpart
                have HHP := Hid.mk' hhp
                have hjp : j < part.size := by rw [hpart]; exact hj1
                have hop : o < tx.size := by rw [HTX.out]; exact ho1
                obtain ⟨ch, hch1, hch2⟩ : ∃ ch, part[j]'hjp = ch ∧ tx[o]'hop = ch := ⟨_, rfl, by
                  have h9 : (sl S.book S.marks k)[j]'hj1 = part[j]'hjp := by simp only [hpart]
                  rw [← h9, hch]
                  simp only [HTX.out]⟩
                have HHZ : Hid (hp.size ≤ maxLen) := by
                  rw [Hid, hhp]
                  rcases Yi.hd_place HI.out.marks hkh with e | e
                  · rw [e]; exact Nat.zero_le _
                  · exact Se.chk_len e
                have HPZ : Hid (part.size ≤ maxLen) := by
                  rw [Hid, hpart]
                  have h1 := few_book HI.out
                  have h2 := Sm.beg_le S.book (heads S.marks) (k + 1)
                  have h3 : (Bm.text S.book).length ≤ S.book.length := by unfold Bm.text; rw [List.length_map]; exact List.length_filter_le _ _
                  have h4 := Sm.slice_len (Lf.book_ok HI.out.book).2.1 HI.out.marks k
                  have h5 : (sl S.book S.marks k).size = (Sm.sliceB S.book (heads S.marks) k).length := by unfold sl; show (Sm.sliceB S.book (heads S.marks) k).toArray.size = _; rw [List.size_toArray]
                  rw [h5, h4]; unfold maxLen; omega
                have htm : (tx.size : Int) ≤ 9223372036854775807 := by
                  have h1 := few_book HI.out
                  have h2 : (Bm.text S.book).length ≤ S.book.length := by unfold Bm.text; rw [List.length_map]; exact List.length_filter_le _ _
                  rw [HTX.out]
                  show ((Bm.text S.book).toArray.size : Int) ≤ _
                  rw [List.size_toArray]
                  omega
                have hpm : (part.size : Int) ≤ 9223372036854775807 := by have := HPZ.out; unfold maxLen at this; omega
                have hjz : (j : Int) < (part.size : Int) := by omega
                have hjd : decide (part.size ≤ j) = false := decide_eq_false (by omega)
                have hoz : (o : Int) < (tx.size : Int) := by omega
                have hkz : (k : Int) < nh := by omega
                clear hpart hhp e1 e2 e3 hlo hfj hj1 ho1 hch hkh
                subst hfo

                have c14 := HAT.out _ HTK.out.chg
                go_wp2_with fail
                go_region_held3 (fun W => W.cell? ⟨ba, oa + i, none⟩ = some (.int .i64 (o : Int))) (first | (go_keep; done) | (refine keep_cell hb9r ?_; (first | assumption | (go_split_ands; assumption))) | (refine keep_cell hb8r ?_; (first | assumption | (go_split_ands; assumption))) | (refine keep_cell hb7r ?_; (first | assumption | (go_split_ands; assumption)))) (first
                  | (go_at_call 10; refine (CBK.out _ (HCB.out _ (Below.refl _ wr).drew)).mono ?_; rintro e w10 ⟨q10, c10, rfl, hk10, hb7r⟩; have HB10 : Hid (Below wr.heap.size wr w10) := bel (Below.refl _ wr).drew hb7r; have HK10 := Hid.mk' hk10; clear hk10)
                  | (go_at_call 11; refine (CMK.out _ (HCB.out _ HB10.out)).mono ?_; rintro e w11 ⟨p11, n11, c11, rfl, hm11, hb8r⟩; have HB11 : Hid (Below wr.heap.size wr w11) := bel HB10.out hb8r; have HK11 : Hid (LeafsIn w11 q10 S.book ∧ lb ≤ c10 ∧ c10 ≤ maxLen) := ⟨HK10.out.1.below hb8r, HK10.out.2⟩; have HM11 := Hid.mk' hm11; clear hm11)
                  | (go_at_call 12; refine (CLF.out _ _ _ _ _ _ HK11.out HM11.out).mono ?_; rintro e w12 ⟨rfl, hb9r⟩; have HB12 : Hid (Below wr.heap.size wr w12) := bel HB11.out hb9r))
                all_goals
                  clear hb7r hb8r hb9r HB10 HK10 HB11 HK11 HM11 c14
                  have HT12 := Hid.mk' (HTK.out.below HB12.out)
                  have c12 := HAT.out _ HT12.out.chg

                  have r12 := (HKC.out w12 HT12.out.chg).2.1 k hkn
                  rw [← HHP.out] at r12
                  have CG := Fu.cache_get X b K Fk hp w12 HT12.out.ca HFT.out
                  cases hg : get? hp K with
                  | some t =>
                    have ht : t = part := by
                      have h9 := HGK.out.hit (k := k) (by rw [← HNH.out]; exact hkn) (by rw [← HHP.out]; exact hg)
                      rw [h9, HPT.out]
                    subst ht
                    have HGE : Hid (getE hp K = 0) := by rw [Hid]; unfold getE; rw [if_neg (by rw [hg]; exact fun e => by cases e)]
                    rw [HGE.out, hg, errV_zero] at CG
                    simp only [Option.getD_some] at CG
                    rw [HHP.out] at CG
                    rw [HHP.out] at r12
                    clear hg
                    go_wp2_with fail
                    refine CG.mono ?_
                    rintro e w13 ⟨rfl, hl13⟩
                    clear CG r12
                    as_aux_lemma =>
                      obtain ⟨F13, hT13⟩ := HT12.out.set hl13
                      have HT13 := Hid.mk' hT13
                      have HGV : Hid (Hon S.book S.marks (getS (hd S.marks k) K)) := HGK.out.get _
                      have HLV : Hid ((getS (hd S.marks k) K).length ≤ i + 1) := by have h1 := Yi.getS_len (hd S.marks k) K; have h2 := HLK.out; rw [Hid]; omega
                      clear hl13 hT13

                      have HU := Hid.mk' (HT13.out.ca.1.le)
                      have CU := used_same X b (getS (hd S.marks k) K) F13 w13 HT13.out.ca
                      obtain ⟨uu, huu⟩ : ∃ uu : Nat, uu = used (getS (hd S.marks k) K) := ⟨_, rfl⟩
                      rw [← huu] at CU
                      have HUU := Hid.mk' huu
                      have hub : uu ≤ b := by rw [huu]; exact HU.out
                      have hu1 : decide (b < uu) = false := decide_eq_false (by omega)
                      have c15 := HAT.out _ HT13.out.chg
                      have HCU : Hid (∀ W, Below w13.heap.size w13 W → Calls Tryz.prog 16 #[Fc.ptr X] W fun e w' => e = .returned (.int .i64 uu) ∧ Below W.heap.size W w') := fun W hb => by rw [huu]; exact used_same X b (getS (hd S.marks k) K) F13 W (HT13.out.below hb).ca
                      clear huu CU
                      go_wp2_with fail
                      go_region_held3 (fun W => W.cell? ⟨ba, oa + i, none⟩ = some (.int .i64 (o : Int))) (first | (go_keep; done) | (refine keep_cell hb7u ?_; (first | assumption | (go_split_ands; assumption)))) (
                        (go_at_call 16; refine (HCU.out _ (Below.refl _ w13).drew).mono ?_; rintro e w20 ⟨rfl, hb7u⟩; have HB20 : Hid (Below w13.heap.size w13 w20) := bel (Below.refl _ w13).drew hb7u))
                      all_goals
                        clear hb7u c15
                        have HT20 := Hid.mk' (HT13.out.below HB20.out)
                        go_wp2_with fail
                        go_roundw
                        case rel => exact ⟨i + 1, (getS (hd S.marks k) K), F13, by omega, by omega, by go_num, HT20, HGV, HLV.out⟩
                        case measure => simp [intOf]; omega

                  | none =>
                    have HGE : Hid (getE hp K = 5) := by rw [Hid]; unfold getE; rw [if_pos hg]
                    have HGS : Hid (getS hp K = K) := by rw [Hid]; unfold getS; rw [hg]
                    rw [HGE.out, hg, errV_ne (by decide)] at CG
                    simp only [Option.getD_none] at CG
                    clear hg
                    go_wp2_with fail
                    refine CG.mono ?_
                    rintro e w13 ⟨rfl, hl13⟩
                    clear CG r12
                    as_aux_lemma =>
                      obtain ⟨F13, hT13⟩ := HT12.out.set hl13
                      rw [HGS.out] at hT13
                      have HT13 := Hid.mk' hT13
                      have CB2 := CBK.out w13 hT13.chg
                      clear hl13 hT13
                      go_wp2_with fail
                      refine CB2.mono ?_
                      rintro e w14 ⟨q14, c14b, rfl, hk14, hb14⟩
                      have HK14 := Hid.mk' hk14
                      have HT14 := Hid.mk' (HT13.out.below hb14)
                      have CM2 := CMK.out w14 HT14.out.chg
                      clear hk14 hb14 CB2
                      go_wp2_with fail
                      refine CM2.mono ?_
                      rintro e w15 ⟨p15, n15, c15b, rfl, hm15, hb15⟩
                      have HT15 := Hid.mk' (HT14.out.below hb15)
                      have CS2 := CSL.out k w15 q14 c14b p15 n15 c15b hkn ⟨HK14.out.1.below hb15, HK14.out.2⟩ hm15
                      rw [← HPT.out] at CS2
                      clear hm15 hb15 CM2
                      go_wp2_with fail
                      refine CS2.mono ?_
                      rintro e w16 ⟨rfl, hb16⟩
                      have HT16 := Hid.mk' (HT15.out.below hb16)
                      have r16 := (HKC.out w16 HT16.out.chg).2.1 k hkn
                      rw [← HHP.out] at r16
                      have CL2 := Fu.cache_load X b K F13 hp part w16 HT16.out.ca HFT.out HHZ.out HPZ.out
                      clear hb16 CS2
                      by_cases hbz : b < part.size
                      · have HLE : Hid (loadE b hp part = 4) := by rw [Hid, HHP.out, Yi.load_err HI.out.marks b (by rw [← HNH.out]; exact hkn), if_pos hbz]
                        have HLS : Hid (loadS b hp part K = K) := by rw [Hid]; unfold loadS; rw [HLE.out, if_pos (by decide)]
                        rw [HLE.out, errV_ne (by decide), HLS.out] at CL2
                        have hbn : ¬ (part.size : Int) ≤ (b : Int) := by omega
                        have hpm : (part.size : Int) ≤ 9223372036854775807 := by have := HPZ.out; unfold maxLen at this; omega
                        clear hbz
                        go_wp2_with fail
                        refine CL2.mono ?_
                        rintro e w17 ⟨rfl, hl17⟩
                        obtain ⟨F17, hT17⟩ := HT16.out.set hl17
                        have HT17 := Hid.mk' hT17
                        clear hl17 hT17 CL2
                        go_wp2_with fail
                        go_roundw
                        case rel => exact ⟨i + 1, K, F17, by omega, by omega, by go_num, HT17, HGK, by have := HLK.out; show K.length ≤ i + 1; omega⟩
                        case measure => simp [intOf]; omega

                      · have HLE : Hid (loadE b hp part = 0) := by rw [Hid, HHP.out, Yi.load_err HI.out.marks b (by rw [← HNH.out]; exact hkn), if_neg hbz]
                        rw [HLE.out, errV_zero] at CL2
                        have HGV : Hid (Hon S.book S.marks (loadS b hp part K)) := by rw [Hid, HHP.out, HPT.out]; exact HGK.out.load HI.out.marks b (by rw [← HNH.out]; exact hkn)
                        have HLV : Hid ((loadS b hp part K).length ≤ i + 1) := by have h1 := Fe.loadS_len b hp part K; have h2 := HLK.out; rw [Hid]; omega
                        clear hbz
                        go_wp2_with fail
                        refine CL2.mono ?_
                        rintro e w17 ⟨rfl, hl17⟩
                        obtain ⟨F17, hT17⟩ := HT16.out.set hl17
                        have HT17 := Hid.mk' hT17
                        clear hl17 hT17 CL2 r16
                        have HU := Hid.mk' (HT17.out.ca.1.le)
                        have CU := used_same X b (loadS b hp part K) F17 w17 HT17.out.ca
                        obtain ⟨uu, huu⟩ : ∃ uu : Nat, uu = used (loadS b hp part K) := ⟨_, rfl⟩
                        rw [← huu] at CU
                        have HUU := Hid.mk' huu
                        have hub : uu ≤ b := by rw [huu]; exact HU.out
                        have hu1 : decide (b < uu) = false := decide_eq_false (by omega)
                        have c15 := HAT.out _ HT17.out.chg
                        have HCU : Hid (∀ W, Below w17.heap.size w17 W → Calls Tryz.prog 16 #[Fc.ptr X] W fun e w' => e = .returned (.int .i64 uu) ∧ Below W.heap.size W w') := fun W hb => by rw [huu]; exact used_same X b (loadS b hp part K) F17 W (HT17.out.below hb).ca
                        clear huu CU
                        go_wp2_with fail
                        go_region_held3 (fun W => W.cell? ⟨ba, oa + i, none⟩ = some (.int .i64 (o : Int))) (first | (go_keep; done) | (refine keep_cell hb7u ?_; (first | assumption | (go_split_ands; assumption)))) (
                          (go_at_call 16; refine (HCU.out _ (Below.refl _ w17).drew).mono ?_; rintro e w20 ⟨rfl, hb7u⟩; have HB20 : Hid (Below w17.heap.size w17 w20) := bel (Below.refl _ w17).drew hb7u))
                        all_goals
                          clear hb7u c15
                          have HT20 := Hid.mk' (HT17.out.below HB20.out)
                          go_wp2_with fail
                          go_roundw
                          case rel => exact ⟨i + 1, (loadS b hp part K), F17, by omega, by omega, by go_num, HT20, HGV, HLV.out⟩
                          case measure => simp [intOf]; omega
            · have hl4z : ¬ (i : Int) < 40 := by omega
              have hltz : (i : Int) < na := by omega
              go_wp2_with fail
              go_ret
              exact ⟨rfl, (HKC.out _ HTK.out.chg).2.2⟩
          · have hltz : ¬ (i : Int) < na := by omega
            go_wp2_with fail
            go_ret
            exact ⟨rfl, (HKC.out _ HTK.out.chg).2.2⟩

end Yj
end Go.Proofs.YtllcmfbkingfdaaGreat
