/- The walk of CursorEnds. -/
import Derived.Test.YtnniggjeadlbgaaGreatDoorCb
import Derived.Test.YtnniggjeadlbgaaGreatDoorUe
import Derived.Test.YtnniggjeadlbgaaGreatDoorJ14
import Derived.Deep.DeepCutAuto
namespace Go.Proofs.YtnniggjeadlbgaaGreatDoor
namespace Cf
set_option linter.unusedVariables false
set_option linter.unusedSimpArgs false
open Go.ChangeShapes Go.WideShapes Go.ChangeAt Go.RowKit Cm Ka Kb Na Om Oa Oz Oc Og Oi Hm Ia Ib Ic Idc Ie If Ig Ih Ii Ij Ik Il Im Um Ua Ub Uc Ud Ue Ca Cb
open La (bel bel_drew errV_zero errV_ne own_ge own_grow own_below Lies LeafsIn)
open Lj (BookAt BookNew)
open Kt (ET)
open Iq (run run_next run_inv off_old)

theorem ops_max {S : Dq} {who off : Int} {t : ByteArray} (I : Inv S) (h : insE S who off t = 0) : ∀ x ∈ insL S who off t, x.2.2.1.size ≤ maxLen := fun x hx => by
  have := small_ops I.book (insE_zero.1 h) x hx
  unfold maxLen; omega
theorem new_shape {B : Nat} {w : World} {v : Value} {l : List Ox} (h : OpsNew B w v l) : ∃ p n c, v = .slice p n c := by
  obtain ⟨g, L, e, _⟩ := h; exact ⟨_, _, _, e⟩
theorem at_shape {w : World} {v : Value} {l : List Bm.Leaf} (h : BookAt w v l) : ∃ p n c, v = .slice p n c := by
  obtain ⟨p, c, e, _⟩ := h; exact ⟨_, _, _, e⟩

def hi : ByteArray := ⟨#[104, 105]⟩
def ix : List Ox := insL d0 1 0 hi
theorem ixE : insE d0 1 0 hi = 0 := by kernel_rfl
theorem ixR : runE d0 ix = 0 := by kernel_rfl
theorem ixS : ∀ x ∈ ix, x.2.2.1.size ≤ maxLen := ops_max inv_zero ixE
theorem ixB : rngE (runS d0 ix).book ⟨#[]⟩ ⟨#[]⟩ = 0 ∧ rngR (runS d0 ix).book ⟨#[]⟩ ⟨#[]⟩ = ⟨#[]⟩ := by
  have h0 : Bm.bookE (runS d0 ix).book = 0 := (Um.run_inv ix inv_zero).book
  have e : resE (runS d0 ix).book ⟨#[]⟩ = 0 := by unfold resE; rw [if_pos (show (⟨#[]⟩ : ByteArray).size = 0 from rfl)]; exact h0
  have e1 : rngE (runS d0 ix).book ⟨#[]⟩ ⟨#[]⟩ = 0 := by unfold rngE; rw [if_neg (by simpa using e), if_neg (by simpa using e), if_neg (by omega)]
  refine ⟨e1, ?_⟩
  unfold rngR
  rw [if_pos e1]
  apply Bm.bytes_inj
  rw [show (⟨#[]⟩ : ByteArray).toList = [] from ByteArray.toList_mk []]
  apply List.eq_nil_of_length_eq_zero
  rw [ByteArray.toList_eq, ByteArray.data_extract, Array.toList_extract, List.extract_eq_take_drop, List.length_take, List.length_drop]
  omega
theorem three (w : World) (hg : ET w) : Calls Tryz.prog 13 #[.iface 105 (.int .i64 3), .int .i64 3] w fun e w' => e = .returned (.bool true) ∧ Below w.heap.size w w' := by
  have h := Kl.same_any 3 3 w hg
  rw [errV_ne (by decide)] at h
  exact h

set_option maxRecDepth 100000 in
set_option maxHeartbeats 8000000 in
theorem walk (vl : Value) (l : List Ox) (x y : Int) (w : World) (hl : OpsAt w vl l) (hsz : ∀ x ∈ l, x.2.2.1.size ≤ maxLen) (hg : ET w) :
    Calls Tryz.prog 6 #[vl, .int .i64 x, .int .i64 y] w fun e w' => e = .returned (.bool true) ∧ Below w.heap.size w w' := by
  obtain ⟨ql, cl, rfl, hlin, _⟩ := hl
  obtain ⟨n, hn⟩ : ∃ n, n = l.length := ⟨_, rfl⟩
  rw [← hn]
  have HN : Hid (l.length = n) := hn.symm
  have HLI : Hid (OpsIn w ql l) := hlin
  have HSZ : Hid (∀ x ∈ l, x.2.2.1.size ≤ maxLen) := hsz
  have HG : Hid (ET w) := hg
  clear hlin hsz hn hg
  go_enter Tryz.func6, Tryz.ntmps6
  go_wp2_with fail
  refine (new_any w).mono ?_
  rintro e w1 ⟨D1, F1, rfl, hd1, hf1, hb1⟩
  have HD1 : Hid (DocAt w1 D1 d0 F1) := hd1
  have HB1 : Hid (Below w.heap.size w w1) := hb1
  have HF1 : Hid (∀ g, F1 g → w.heap.size ≤ g ∧ g < w1.heap.size) := fun g hg => ⟨hf1 g hg, hd1.lt g hg⟩
  have CI := insert_any D1 d0 F1 1 0 hi w1 hd1 (by unfold maxLen; decide)
  clear hd1 hf1 hb1
  go_wp2_with fail
  refine CI.mono ?_
  rintro e w2 ⟨v2, he, ho2, _, hb2⟩
  rw [ixE, errV_zero] at he
  subst he
  obtain ⟨p2, n2, c2, rfl⟩ := new_shape (ho2 ixE)
  have HO2 : Hid (OpsG (fun g => w1.heap.size ≤ g ∧ g < w2.heap.size) w2 (.slice p2 n2 c2) ix) := OpsG.new (ho2 ixE)
  have HB2 : Hid (Below w.heap.size w w2) := bel HB1.out hb2
  have CD : Calls Tryz.prog 33 #[.pointer (some ⟨D1, 0, none⟩), .slice p2 n2 c2] w2 (DoPost w2 D1 d0 F1 ix) := do_any D1 d0 F1 _ _ ix w2 (HD1.out.below hb2) HO2.out (fun g hg => ⟨hg.2, fun e => by have := (HF1.out g e).2; have := hg.1; omega⟩) ixS
  clear CI ho2 hb2 HD1 HB1
  go_wp2_with fail
  refine CD.mono ?_
  rintro e w3 ⟨he, F3, hd3, hc3, hf3⟩
  rw [ixR, errV_zero] at he
  subst he
  have HB3 : Hid (Below w.heap.size w w3) := hc3.below (fun g hg => (HF1.out g hg).1) HB2.out HB2.out.size
  have CB := book_get D1 (runS d0 ix) F3 w3 hd3
  clear CD hd3 hc3 hf3 HO2 HB2 HF1
  go_wp2_with fail
  refine CB.mono ?_
  rintro e w4 ⟨v4, rfl, hk4, hb4⟩
  obtain ⟨p4, n4, c4, rfl⟩ := at_shape hk4.1
  have HB4 : Hid (Below w.heap.size w w4) := bel HB3.out hb4
  have CG := range_any _ (runS d0 ix).book ⟨#[]⟩ ⟨#[]⟩ w4 hk4.1 (small_book (Um.run_inv ix inv_zero).book) (Nat.zero_le _) (Nat.zero_le _)
  rw [ixB.1, ixB.2, errV_zero] at CG
  clear CB hk4 hb4 HB3
  go_wp2_with fail
  refine CG.mono ?_
  rintro e w5 ⟨rfl, hb5⟩
  have HB5 : Hid (Below w.heap.size w w5) := bel HB4.out hb5
  clear CG hb5 HB4
  go_wp2_with fail
  refine (new_any w5).mono ?_
  rintro e w6 ⟨D, F6, rfl, hd6, hf6, hb6⟩
  have HD6 : Hid (DocAt w6 D (run l 0) F6) := hd6
  have HB6 : Hid (Below w.heap.size w w6) := bel HB5.out hb6
  have HF6 : Hid (∀ g, F6 g → w.heap.size ≤ g) := fun g hg => Nat.le_trans HB5.out.size (hf6 g hg)
  clear hd6 hf6 hb6 HB5
  go_wp2_with fail
  go_loopw [11] (fun vi wr => ∃ (k : Nat) (F : Nat → Prop), k ≤ n ∧ k ≤ 60 ∧ vi = .int .i64 k ∧ Hid (DocAt wr D (run l k) F) ∧ Hid (∀ g, F g → w.heap.size ≤ g) ∧ Hid (Below w.heap.size w wr)) (fun vi _ => 60 - (intOf vi).toNat)
  case atStart => exact ⟨0, F6, by omega, by omega, rfl, HD6, HF6, HB6⟩
  case round =>
    clear HD6 HF6 HB6
    obtain ⟨k, F, hk, hk60, rfl, HD, HF, HB⟩ := hrel
    go_upto_region 10 with fail
    go_cut [53] from 46 to 61 (fun s53 wx => ∃ t : Bool, s53 = .bool t ∧ Hid (t = decide (k < n ∧ k < 60)) ∧ wr = wx)
    case first =>
      by_cases h1 : k < n
      · have h1z : (k : Int) < n := by omega
        by_cases h2 : k < 60
        · have h2z : (k : Int) < 60 := by omega
          go_wp2_with fail
          go_meet
          case rel => exact ⟨true, rfl, (decide_eq_true ⟨h1, h2⟩).symm, rfl⟩
        · have h2z : ¬ (k : Int) < 60 := by omega
          have H2 : Hid (decide (k < n ∧ k < 60) = false) := decide_eq_false (fun h => h2 h.2)
          go_wp2_with fail
          go_meet
          case rel => exact ⟨false, by simp [h2], H2.out.symm, rfl⟩
      · have h1z : ¬ (k : Int) < n := by omega
        have H2 : Hid (decide (k < n ∧ k < 60) = false) := decide_eq_false (fun h => h1 h.1)
        go_wp2_with fail
        go_meet
        case rel => exact ⟨false, rfl, H2.out.symm, rfl⟩
    case rest =>
    obtain ⟨tt, rfl, HTT, rfl⟩ := hcut
    cases tt
    case true =>
      obtain ⟨hlt1, hlt2⟩ := of_decide_eq_true HTT.out.symm
      have hltz : (k : Int) < n := by omega
      have hkl : k < l.length := by rw [HN.out]; exact hlt1
      obtain ⟨bo, oo, rfl, hc⟩ := HLI.out.some (by intro e; rw [e] at hkl; simp at hkl)
      have ha0 := hc k hkl
      have hxm := HSZ.out _ (getO_mem hkl)
      have HRN : Hid (run l (k + 1) = apS (run l k) (l.getD k oz)) := run_next hkl
      obtain ⟨x, hx⟩ : ∃ x, x = l.getD k oz := ⟨_, rfl⟩
      rw [← hx] at ha0 hxm HRN
      obtain ⟨⟨xa, xb⟩, xt, xp, xc, xs⟩ := x
      obtain ⟨vx, ⟨g0, g1, g2, g3, g4, g5⟩, hdx0⟩ := ha0
      simp only at g0 g1 g2 g3 g4 g5 hdx0 hxm
      obtain ⟨pv, nv, cv, rfl⟩ : ∃ pv nv cv, vx = .slice pv nv cv := by obtain ⟨_, _, e9, _⟩ := hdx0; exact ⟨_, _, _, e9⟩
      have hlt' := World.block_lt_of_cell? _ _ g0
      have a0 := (HB.out.cell (p := ⟨bo, oo + k * 6, none⟩) hlt').trans g0
      have a1 := (HB.out.cell (p := ⟨bo, oo + k * 6 + 1, none⟩) hlt').trans g1
      have a2 := (HB.out.cell (p := ⟨bo, oo + k * 6 + 2, none⟩) hlt').trans g2
      have a3 := (HB.out.cell (p := ⟨bo, oo + k * 6 + 3, none⟩) hlt').trans g3
      have a4 := (HB.out.cell (p := ⟨bo, oo + k * 6 + 4, none⟩) hlt').trans g4
      have a5 := (HB.out.cell (p := ⟨bo, oo + k * 6 + 5, none⟩) hlt').trans g5
      have C := apply_any D (run l k) F xa xb xt xp xc (.slice pv nv cv) xs wr HD.out (hdx0.below HB.out) (off_old hdx0 HF.out) hxm
      clear hc hx hkl hxm hdx0 g0 g1 g2 g3 g4 g5 hlt'
      go_wp2_with fail
      refine C.mono ?_
      rintro e w9 ⟨he, _, F9, hd9, hc9, hf9⟩
      have HD9 : Hid (DocAt w9 D (run l (k + 1)) F9) := by unfold Hid; rw [HRN.out]; exact hd9
      have HB9 : Hid (Below w.heap.size w w9) := hc9.below HF.out HB.out HB.out.size
      have HF9 : Hid (∀ g, F9 g → w.heap.size ≤ g) := fun g hg => by
        rcases hf9 g hg with e | e
        · exact HF.out g e
        · exact Nat.le_trans HB.out.size e
      obtain ⟨ev, hev⟩ : ∃ ev, ev = Value.tuple #[.bool (isNew (run l k) ((xa, xb), xt, xp, xc, xs)), errV (apE (run l k) ((xa, xb), xt, xp, xc, xs))] := ⟨_, rfl⟩
      rw [← hev] at he
      subst he
      clear hd9 hc9 hf9 C a0 a1 a2 a3 a4 a5 hev HD HF HB
      go_wp2_with fail
      go_roundw
      case rel => exact ⟨k + 1, F9, by omega, by omega, by go_num, HD9, HF9, HB9⟩
      case measure => simp [intOf]; omega
    case false =>
      obtain ⟨S, hS⟩ : ∃ S, S = run l k := ⟨_, rfl⟩
      have HI : Hid (Inv S) := by unfold Hid; rw [hS]; exact run_inv l k
      rw [← hS] at HD
      have h300 : (Lf.textR S.book).size ≤ 300 := by rw [textR_size HI.out.book]; exact text_300 HI.out.book
      have HAX : Hid (anchE S.book x = if x < 0 ∨ ((Lf.textR S.book).size : Int) < x then 1 else 0) := anchE_iff HI.out.book
      have HAY : Hid (anchE S.book y = if y < 0 ∨ ((Lf.textR S.book).size : Int) < y then 1 else 0) := anchE_iff HI.out.book
      obtain ⟨T, hT⟩ : ∃ T, T = Lf.textR S.book := ⟨_, rfl⟩
      have HTE : Hid (T = Lf.textR S.book) := hT
      have CT := text_get D S F wr HD.out
      rw [← hT] at CT HAX HAY h300
      clear hS HSZ HLI HTT hT
      go_wp2_with fail
      refine CT.mono ?_
      rintro e w3 ⟨rfl, hb3⟩
      have HB3 : Hid (Below w.heap.size w w3) := bel HB.out hb3
      have HD3 : Hid (DocAt w3 D S F) := HD.out.below hb3
      have CB := book_get D S F w3 HD3.out
      clear CT hb3 HD HB
      go_wp2_with fail
      refine CB.mono ?_
      rintro e w4 ⟨v4, rfl, hk4, hb4⟩
      obtain ⟨p4, n4, c4, rfl⟩ := at_shape hk4.1
      have HB4 : Hid (Below w.heap.size w w4) := bel HB3.out hb4
      have HD4 : Hid (DocAt w4 D S F) := HD3.out.below hb4
      have CA := anchor_any _ S.book x w4 hk4.1 (small_book HI.out.book)
      obtain ⟨P, hP⟩ : ∃ P, P = anchR S.book x := ⟨_, rfl⟩
      have HP : Hid (P = anchR S.book x) := hP
      obtain ⟨EX, hEX⟩ : ∃ EX, EX = errV (anchE S.book x) := ⟨_, rfl⟩
      have HEX : Hid (EX = errV (anchE S.book x)) := hEX
      rw [← hP, ← hEX] at CA
      clear CB hk4 hb4 HD3 HB3 hP hEX
      go_wp2_with fail
      refine CA.mono ?_
      rintro e w5 ⟨rfl, hb5⟩
      have HB5 : Hid (Below w.heap.size w w5) := bel HB4.out hb5
      have HD5 : Hid (DocAt w5 D S F) := HD4.out.below hb5
      have CB := book_get D S F w5 HD5.out
      clear CA hb5 HD4 HB4
      go_wp2_with fail
      refine CB.mono ?_
      rintro e w6 ⟨v6, rfl, hk6, hb6⟩
      obtain ⟨p6, n6, c6, rfl⟩ := at_shape hk6.1
      have HB6 : Hid (Below w.heap.size w w6) := bel HB5.out hb6
      have HD6 : Hid (DocAt w6 D S F) := HD5.out.below hb6
      have CA := anchor_any _ S.book y w6 hk6.1 (small_book HI.out.book)
      obtain ⟨R, hR⟩ : ∃ R, R = anchR S.book y := ⟨_, rfl⟩
      have HR : Hid (R = anchR S.book y) := hR
      obtain ⟨EY, hEY⟩ : ∃ EY, EY = errV (anchE S.book y) := ⟨_, rfl⟩
      have HEY : Hid (EY = errV (anchE S.book y)) := hEY
      rw [← hR, ← hEY] at CA
      clear CB hk6 hb6 HD5 HB5 hR hEY
      by_cases hx : x < 0 ∨ (T.size : Int) < x
      case pos =>
        have he : EX = .iface 105 (.int .i64 1) := by rw [HEX.out, HAX.out, if_pos hx, errV_ne (by decide)]
        subst he
        go_wp2_with fail
        refine CA.mono ?_
        rintro e w7 ⟨rfl, hb7⟩
        have HB7 : Hid (Below w.heap.size w w7) := bel HB6.out hb7
        clear CA hb7
        by_cases hlo : x < 0
        · clear hx
          go_wp2_with fail
          go_ret
          exact ⟨by first | rfl | (refine ret_bool ?_; simp), HB7.out⟩
        · have hhi : (T.size : Int) < x := by omega
          clear hx
          go_wp2_with fail
          go_ret
          exact ⟨by first | rfl | (refine ret_bool ?_; simp), HB7.out⟩
      case neg =>
      have he : EX = .nilIface := by rw [HEX.out, HAX.out, if_neg hx, errV_zero]
      subst he
      have hx0 : ¬ x < 0 := by omega
      have hx1 : ¬ (T.size : Int) < x := by omega
      by_cases hy : y < 0 ∨ (T.size : Int) < y
      case pos =>
        have he : EY = .iface 105 (.int .i64 1) := by rw [HEY.out, HAY.out, if_pos hy, errV_ne (by decide)]
        subst he
        go_wp2_with fail
        refine CA.mono ?_
        rintro e w7 ⟨rfl, hb7⟩
        have HB7 : Hid (Below w.heap.size w w7) := bel HB6.out hb7
        clear CA hb7 hx
        by_cases hlo : y < 0
        · clear hy
          go_wp2_with fail
          go_ret
          exact ⟨by first | rfl | (refine ret_bool ?_; simp), HB7.out⟩
        · have hhi : (T.size : Int) < y := by omega
          clear hy
          go_wp2_with fail
          go_ret
          exact ⟨by first | rfl | (refine ret_bool ?_; simp), HB7.out⟩
      case neg =>
      have he : EY = .nilIface := by rw [HEY.out, HAY.out, if_neg hy, errV_zero]
      subst he
      have hy0 : ¬ y < 0 := by omega
      have hy1 : ¬ (T.size : Int) < y := by omega
      have HHX : Hid (Held S.book x P) := by unfold Hid; rw [HP.out]; exact anch_held HI.out.book (by rw [HAX.out, if_neg hx])
      have HHY : Hid (Held S.book y R) := by unfold Hid; rw [HR.out]; exact anch_held HI.out.book (by rw [HAY.out, if_neg hy])
      clear hx hy HEX HEY HAX HAY
      go_wp2_with fail
      refine CA.mono ?_
      rintro e w7 ⟨rfl, hb7⟩
      have HB7 : Hid (Below w.heap.size w w7) := bel HB6.out hb7
      have HD7 : Hid (DocAt w7 D S F) := HD6.out.below hb7
      have CB := book_get D S F w7 HD7.out
      clear CA hb7 HB6 HD6
      go_wp2_with fail
      refine CB.mono ?_
      rintro e w8 ⟨v8, rfl, hk8, hb8⟩
      obtain ⟨p8, n8, c8, rfl⟩ := at_shape hk8.1
      have HB8 : Hid (Below w.heap.size w w8) := bel HB7.out hb8
      have hmx : P.size ≤ maxLen := by have := (held_res HI.out.book HHX.out).1; unfold maxLen; omega
      have hmy : R.size ≤ maxLen := by have := (held_res HI.out.book HHY.out).1; unfold maxLen; omega
      have CG := range_any _ S.book P R w8 hk8.1 (small_book HI.out.book) hmx hmy
      obtain ⟨g1, g2⟩ := ends HI.out.book HHX.out HHY.out
      clear CB hk8 hb8 HB7 HD7 hmx hmy
      by_cases hlt : y < x
      · rw [if_pos hlt] at g1
        rw [g1, errV_ne (by decide)] at CG
        obtain ⟨Z, hZ⟩ : ∃ Z, Z = rngR S.book P R := ⟨_, rfl⟩
        rw [← hZ] at CG
        clear g1 g2 hZ
        go_wp2_with fail
        refine CG.mono ?_
        rintro e w9 ⟨rfl, hb9⟩
        have HB9 : Hid (Below w.heap.size w w9) := bel HB8.out hb9
        have CE := three w9 (Kl.ET.below HG.out HB9.out)
        clear CG hb9
        go_wp2_with fail
        refine CE.mono ?_
        rintro e w10 ⟨rfl, hb10⟩
        have HB10 : Hid (Below w.heap.size w w10) := bel HB9.out hb10
        clear CE hb10
        go_wp2_with fail
        go_ret
        exact ⟨rfl, HB10.out⟩
      · rw [if_neg hlt] at g1
        rw [g1, g2 hlt, errV_zero, ← HTE.out] at CG
        obtain ⟨a, rfl⟩ : ∃ a : Nat, x = (a : Int) := ⟨x.toNat, by omega⟩
        obtain ⟨b, rfl⟩ : ∃ b : Nat, y = (b : Int) := ⟨y.toNat, by omega⟩
        rw [show ((a : Int)).toNat = a from rfl, show ((b : Int)).toNat = b from rfl] at CG
        have h3a : (a : Int) ≤ (b : Int) := by omega
        have h3b : (b : Int) ≤ (T.size : Int) := by omega
        clear g1 g2
        go_wp2_with fail
        refine CG.mono ?_
        rintro e w9 ⟨rfl, hb9⟩
        have HB9 : Hid (Below w.heap.size w w9) := bel HB8.out hb9
        clear CG hb9
        go_wp2_with fail
        go_ret
        exact ⟨by first | rfl | (refine ret_bool ?_; simp), HB9.out⟩

end Cf
end Go.Proofs.YtnniggjeadlbgaaGreatDoor
