/- StatOne's walk. -/
import Derived.Test.YtiiiineipajhmaaSq4
import Derived.Test.YtiiiineipajhmaaUe
import Derived.Test.YtiiiineipajhmaaLp
namespace Go.Proofs.Ytiiiineipajhmaa
namespace Sq8
set_option linter.unusedVariables false
set_option linter.unusedSimpArgs false
open Go.ChangeShapes Go.WideShapes Go.ChangeAt Go.RowKit Cm Ka Kb Om Oa Hm Ia Ie Im Il Um Ua Ub Uc Ud Ue
open Sq1 (Pr zp runs wrt addW at8 one_runs who)
open Sq2 (Own)
open Sq3 (OwnI runsR wrtR runs_any written_any)
open La (bel bel_drew errV_zero errV_ne own_below LeafsIn)
open Lp (seen_ref)
open Bm (Leaf bookE bookE_zero isS none0)

theorem new_shape {B : Nat} {w : World} {v : Value} {l : List Ox} (h : OpsNew B w v l) : ∃ p n c, v = .slice p n c := by
  obtain ⟨g, L, e, _⟩ := h; exact ⟨_, _, _, e⟩
theorem ops_max {S : Dq} {who off : Int} {t : ByteArray} (I : Inv S) (h : insE S who off t = 0) : ∀ x ∈ insL S who off t, x.2.2.1.size ≤ maxLen := fun x hx => by
  have := small_ops I.book (insE_zero.1 h) x hx
  unfold maxLen; omega
theorem one_book {a : Int} {t : ByteArray} (h : insE d0 a 0 t = 0) :
    runE d0 (insL d0 a 0 t) = 0 ∧ (runS d0 (insL d0 a 0 t)).book.length = t.size ∧ ∀ x ∈ (runS d0 (insL d0 a 0 t)).book, isS x = true ∧ who x = a := by
  have ok := insE_zero.1 h
  obtain ⟨h1, h2, _⟩ := ins_run inv_zero ok (by show 0 + t.size ≤ 300; have := ok.few; omega) (by show 0 + t.size ≤ 400; have := ok.few; omega) t.size (Nat.le_refl _)
  have e : (insL d0 a 0 t).take t.size = insL d0 a 0 t := by rw [List.take_of_length_le]; rw [insL_len]; exact Nat.le_refl _
  rw [e] at h1 h2
  have e2 : (d0.book : List Leaf) = [] := rfl
  rw [e2, List.take_nil, List.drop_nil, List.nil_append, List.append_nil] at h2
  refine ⟨h1, by rw [h2, news_len], fun x hx => ?_⟩
  rw [h2] at hx
  obtain ⟨j, hj, rfl⟩ := news_mem hx
  have hL := let_at ok.lets hj
  refine ⟨?_, ?_⟩
  · have := (Bm.isL_ne hL).1
    unfold isS; simpa using this
  · have := ok.row
    exact (nth_chk this hj).whose
theorem wrt_one (a : Int) (m : Int) : (wrt [(a, m)]).getD (a - 1).toNat 0 = if (a - 1).toNat < 8 then m else 0 := by
  unfold wrt
  simp only [List.foldl_cons, List.foldl_nil, addW, at8]
  by_cases h : (a - 1).toNat < 8
  · rw [if_pos h, Sq1.getD_set_self _ _ _ _ (by simpa using h)]
    have : ([0, 0, 0, 0, 0, 0, 0, 0] : List Int).getD (a - 1).toNat 0 = 0 := by
      generalize (a - 1).toNat = j at h ⊢
      match j, h with
      | 0, _ | 1, _ | 2, _ | 3, _ | 4, _ | 5, _ | 6, _ | 7, _ => rfl
    rw [this]; omega
  · rw [if_neg h, List.getD_eq_getElem?_getD, List.getElem?_eq_none (by simp; omega)]; rfl
theorem wrt_len (a : Int) (m : Int) : (wrt [(a, m)]).length = 8 := by unfold wrt; simp [addW]

set_option maxRecDepth 100000 in
set_option maxHeartbeats 8000000 in
theorem walk (t : ByteArray) (a : Int) (w : World) (ht : t.size ≤ maxLen) :
    Calls Try.prog 4 #[.string t, .int .i64 a] w fun e w' => e = .returned (.bool true) ∧ Below w.heap.size w w' := by
  have htz : (t.size : Int) ≤ 9223372036854775807 := by unfold maxLen at ht; omega
  have HTM : Hid (t.size ≤ maxLen) := ht
  go_enter Try.func4, Try.ntmps4
  go_wp2_with fail
  refine (new_any w).mono ?_
  rintro e w1 ⟨A, F1, rfl, hd1, hf1, hb1⟩
  have HD1 : Hid (DocAt w1 A d0 F1) := hd1
  have HB1 : Hid (Below w.heap.size w w1) := hb1
  have HF1 : Hid (∀ g, F1 g → w.heap.size ≤ g ∧ g < w1.heap.size) := fun g hg => ⟨hf1 g hg, hd1.lt g hg⟩
  have CI := insert_any A d0 F1 a 0 t w1 hd1 ht
  clear hd1 hf1 hb1 ht
  by_cases hx0 : insE d0 a 0 t = 0
  case neg =>
    obtain ⟨ez, hez⟩ : ∃ ez, ez = insE d0 a 0 t := ⟨_, rfl⟩
    rw [← hez] at CI hx0
    have HX0 : Hid (ez ≠ 0) := hx0
    clear hez hx0
    go_wp2_with fail
    refine CI.mono ?_
    rintro e w3 ⟨v3, he, _, hv3, hb3⟩
    have := hv3 HX0.out
    subst this
    rw [errV_ne HX0.out] at he
    subst he
    have HB3 : Hid (Below w.heap.size w w3) := bel HB1.out hb3
    clear CI hv3 hb3
    go_wp2_with fail
    go_ret
    exact ⟨rfl, HB3.out⟩
  case pos =>
  have HX0 : Hid (insE d0 a 0 t = 0) := hx0
  have HXM : Hid (∀ x ∈ insL d0 a 0 t, x.2.2.1.size ≤ maxLen) := ops_max inv_zero hx0
  obtain ⟨hOK1, hOK2, hOK3⟩ := one_book hx0
  have h1 : 1 ≤ a := (insE_zero.1 hx0).who1
  have h8 : a ≤ 8 := (insE_zero.1 hx0).who8
  have hs2 : t.size ≤ 200 := (insE_zero.1 hx0).few
  have HR0 : Hid (runE d0 (insL d0 a 0 t) = 0) := hOK1
  rw [hx0] at CI
  have HLEN : Hid ((runS d0 (insL d0 a 0 t)).book.length = t.size) := hOK2
  have HALL : Hid (∀ x ∈ (runS d0 (insL d0 a 0 t)).book, isS x = true ∧ who x = a) := hOK3
  clear hx0 hOK1 hOK2 hOK3
  go_wp2_with fail
  refine CI.mono ?_
  rintro e w3 ⟨v3, he, hv3, _, hb3⟩
  rw [errV_zero] at he
  subst he
  have hv3 := hv3 rfl
  obtain ⟨p3, n3, c3, rfl⟩ := new_shape hv3
  have HXG : Hid (OpsG (fun g => w1.heap.size ≤ g ∧ g < w3.heap.size) w3 (.slice p3 n3 c3) (insL d0 a 0 t)) := OpsG.new hv3
  have HB3 : Hid (Below w.heap.size w w3) := bel HB1.out hb3
  have HD3 : Hid (DocAt w3 A d0 F1) := HD1.out.below hb3
  clear CI hv3 hb3 HD1
  have CD := do_any A d0 F1 _ _ (insL d0 a 0 t) w3 HD3.out HXG.out (fun g hg => ⟨hg.2, fun e => by have := (HF1.out g e).2; have := hg.1; omega⟩) HXM.out
  go_wp2_with fail
  refine CD.mono ?_
  rintro e w4 ⟨he, F4, hd4, hc4, hf4⟩
  rw [HR0.out, errV_zero] at he
  subst he
  have HI1 : Hid (Inv (runS d0 (insL d0 a 0 t))) := run_inv _ inv_zero
  have HB4 : Hid (Below w.heap.size w w4) := hc4.below (fun g hg => (HF1.out g hg).1) HB3.out HB3.out.size
  have HD4 : Hid (DocAt w4 A (runS d0 (insL d0 a 0 t)) F4) := hd4
  obtain ⟨S, hS⟩ : ∃ S, S = runS d0 (insL d0 a 0 t) := ⟨_, rfl⟩
  rw [← hS] at HLEN HALL HD4 HI1
  clear CD hd4 hc4 hf4 HF1 HXG HD3 HB3 HB1 HR0 HXM hS HX0
  have h0 := HI1.out.book
  have hsb := small_book h0
  have hlb : S.book.length ≤ maxLen := by have := (bookE_zero.1 h0).1; unfold maxLen; omega
  have CB : ∀ w, DocAt w A S F4 → _ := fun w h => book_get A S F4 w h
  have CW : ∀ w p c, LeafsIn w p S.book → _ := fun w p c hI => written_any p S.book.length c S.book w rfl hI hsb hlb
  have CR : ∀ w p c, LeafsIn w p S.book → _ := fun w p c hI => runs_any p S.book.length c S.book w rfl hI hsb hlb
  rw [show wrtR S.book = wrt (runs S.book) by unfold wrtR; rw [if_pos h0]] at CW
  rw [show runsR S.book = runs S.book by unfold runsR; rw [if_pos h0]] at CR
  rw [h0, errV_zero] at CW CR
  rw [HLEN.out] at CW CR
  have HCB : Hid _ := CB
  have hw8 : (a - 1).toNat < 8 := by omega
  have HWN : Hid ((a - 1).toNat = a.toNat - 1) := by unfold Hid; omega
  clear h0 hsb hlb CB
  by_cases ht0 : t.size = 0
  · have hnil : S.book = [] := List.eq_nil_of_length_eq_zero (by rw [HLEN.out]; exact ht0)
    rw [hnil] at CW CR
    rw [show runs [] = [] from rfl] at CW CR
    rw [show wrt [] = [0, 0, 0, 0, 0, 0, 0, 0] from rfl] at CW
    have HCW : Hid _ := CW
    have HCR : Hid _ := CR
    have hte : t.toList = [] := List.eq_nil_of_length_eq_zero (by rw [Kb.len_eq]; exact ht0)
    obtain rfl : t = ⟨#[]⟩ := Bm.bytes_inj (by rw [hte]; exact (ByteArray.toList_mk []).symm)
    have hz8 : ([0, 0, 0, 0, 0, 0, 0, 0] : List Int).getD (a - 1).toNat 0 = 0 := by
      generalize (a - 1).toNat = j at hw8 ⊢
      match j, hw8 with
      | 0, _ | 1, _ | 2, _ | 3, _ | 4, _ | 5, _ | 6, _ | 7, _ => rfl
    rw [← hnil] at HCW HCR
    clear CW CR hnil hte ht0
    go_wp2_with fail
    refine (HCB.out w4 HD4.out).mono ?_
    rintro e w5 ⟨v5, rfl, hk5, hb5⟩
    obtain ⟨p5, c5, rfl, hi5, _⟩ := hk5.1
    rw [HLEN.out]
    have K5 : Hid (Below w.heap.size w w5) := bel HB4.out hb5
    have HD5 : Hid (DocAt w5 A S F4) := HD4.out.below hb5
    clear hk5 hb5 HB4 HD4
    go_wp2_with fail
    refine (HCW.out w5 p5 c5 hi5).mono ?_
    rintro e w6 ⟨v6, rfl, ho6, hb6⟩
    obtain ⟨q6, c6, rfl, hq6⟩ := ho6.out.shape
    obtain ⟨g6, rfl, _⟩ := hq6 (by decide)
    rw [show ([0, 0, 0, 0, 0, 0, 0, 0] : List Int).length = 8 from rfl] at ho6 ⊢
    have K6 : Hid (Below w.heap.size w w6) := bel K5.out hb6.out
    have HD6 : Hid (DocAt w6 A S F4) := HD5.out.below hb6.out
    clear hb6 HD5 K5 hi5 hq6
    go_wp2_with fail
    refine (HCB.out w6 HD6.out).mono ?_
    rintro e w7 ⟨v7, rfl, hk7, hb7⟩
    obtain ⟨p7, c7, rfl, hi7, _⟩ := hk7.1
    rw [HLEN.out]
    have K7 : Hid (Below w.heap.size w w7) := bel K6.out hb7
    have HO7 : Hid (OwnI w5.heap.size w7 (.slice (some ⟨g6, 0, none⟩) 8 c6) [0, 0, 0, 0, 0, 0, 0, 0]) := own_below ho6.out hb7
    clear hk7 hb7 K6 HD6 ho6
    go_wp2_with fail
    refine (HCR.out w7 p7 c7 hi7).mono ?_
    rintro e w8 ⟨v8, rfl, ho8, hb8⟩
    obtain ⟨q8, c8, rfl, _⟩ := ho8.out.shape
    rw [show ([] : List Pr).length = 0 from rfl]
    have K8 : Hid (Below w.heap.size w w8) := bel K7.out hb8.out
    have HO8 : Hid (OwnI w5.heap.size w8 (.slice (some ⟨g6, 0, none⟩) 8 c6) [0, 0, 0, 0, 0, 0, 0, 0]) := own_below HO7.out hb8.out
    have hc := (HO8.out.cell rfl hw8).1
    rw [hz8] at hc
    rw [HWN.out] at hc
    have hwn := HWN.out
    clear ho8 hb8 K7 HO7 hi7
    go_wp2_with fail
    go_ret
    exact ⟨rfl, K8.out⟩
  · have hne : S.book ≠ [] := by intro e; have := HLEN.out; rw [e] at this; simp at this; omega
    have hru := one_runs HALL.out hne
    rw [HLEN.out] at hru
    rw [hru] at CW CR
    have HCW : Hid _ := CW
    have HCR : Hid _ := CR
    have hz8 : (wrt [(a, (t.size : Int))]).getD (a - 1).toNat 0 = (t.size : Int) := by rw [wrt_one, if_pos hw8]
    have hvl := wrt_len a (t.size : Int)
    have htn : t.toList ≠ [] := by intro e; apply ht0; rw [← Kb.len_eq, e]; rfl
    have hb1 : (t.toList == (⟨#[]⟩ : ByteArray).toList) = false := by rw [show (⟨#[]⟩ : ByteArray).toList = [] from ByteArray.toList_mk []]; simpa using htn
    have hb2 : (t.toList == []) = false := by simpa using htn
    obtain ⟨vv, hvv⟩ : ∃ vv, vv = wrt [(a, (t.size : Int))] := ⟨_, rfl⟩
    rw [← hvv] at HCW hz8 hvl
    have HVL : Hid (vv.length = 8) := hvl
    have HZ8 : Hid (vv.getD (a - 1).toNat 0 = (t.size : Int)) := hz8
    have hpos : 0 < S.book.length := List.length_pos_iff.2 hne
    have HS0 : Hid (isS (S.book.getD 0 none0) = true) := (HALL.out _ (Bm.getD_mem hpos)).1
    have HNE : Hid (S.book ≠ []) := hne
    have HPO : Hid (0 < S.book.length) := hpos
    have htp : 0 < t.size := by omega
    clear CW CR hne hru hvv hz8 hvl htn ht0 hpos
    go_wp2_with fail
    refine (HCB.out w4 HD4.out).mono ?_
    rintro e w5 ⟨v5, rfl, hk5, hb5⟩
    obtain ⟨p5, c5, rfl, hi5, _⟩ := hk5.1
    rw [HLEN.out]
    have K5 : Hid (Below w.heap.size w w5) := bel HB4.out hb5
    have HD5 : Hid (DocAt w5 A S F4) := HD4.out.below hb5
    clear hk5 hb5 HB4 HD4
    go_wp2_with fail
    refine (HCW.out w5 p5 c5 hi5).mono ?_
    rintro e w6 ⟨v6, rfl, ho6, hb6⟩
    obtain ⟨q6, c6, rfl, hq6⟩ := ho6.out.shape
    obtain ⟨g6, rfl, _⟩ := hq6 (by rw [HVL.out]; omega)
    rw [HVL.out] at ho6 ⊢
    have K6 : Hid (Below w.heap.size w w6) := bel K5.out hb6.out
    have HD6 : Hid (DocAt w6 A S F4) := HD5.out.below hb6.out
    clear hb6 HD5 K5 hi5 hq6
    go_wp2_with fail
    refine (HCB.out w6 HD6.out).mono ?_
    rintro e w7 ⟨v7, rfl, hk7, hb7⟩
    obtain ⟨p7, c7, rfl, hi7, _⟩ := hk7.1
    rw [HLEN.out]
    have K7 : Hid (Below w.heap.size w w7) := bel K6.out hb7
    have HO7 : Hid (OwnI w5.heap.size w7 (.slice (some ⟨g6, 0, none⟩) 8 c6) vv) := own_below ho6.out hb7
    have HD7 : Hid (DocAt w7 A S F4) := HD6.out.below hb7
    clear hk7 hb7 K6 HD6 ho6
    go_wp2_with fail
    refine (HCR.out w7 p7 c7 hi7).mono ?_
    rintro e w8 ⟨v8, rfl, ho8, hb8⟩
    obtain ⟨q8, c8, rfl, hq8⟩ := ho8.out.shape
    obtain ⟨g8, rfl, _⟩ := hq8 (by simp)
    rw [show ([(a, (t.size : Int))] : List Pr).length = 1 from rfl] at ho8 ⊢
    have K8 : Hid (Below w.heap.size w w8) := bel K7.out hb8.out
    have HO8 : Hid (OwnI w5.heap.size w8 (.slice (some ⟨g6, 0, none⟩) 8 c6) vv) := own_below HO7.out hb8.out
    have hc := (HO8.out.cell HVL.out hw8).1
    rw [HZ8.out] at hc
    rw [HWN.out] at hc
    have hwn := HWN.out
    obtain ⟨r1, r2⟩ := ho8.out.cells rfl (show 0 < 1 by omega)
    have R1 : w8.cell? ⟨g8, 0, none⟩ = some (.int .i64 a) := by simpa using r1
    have R2 : w8.cell? ⟨g8, 1, none⟩ = some (.int .i64 (t.size : Int)) := by simpa using r2
    have HD8 : Hid (DocAt w8 A S F4) := HD7.out.below hb8.out
    clear ho8 hb8 K7 HO7 hi7 HD7 r1 r2 hq8
    go_wp2_with fail
    refine (HCB.out w8 HD8.out).mono ?_
    rintro e w9 ⟨v9, rfl, hk9, hb9⟩
    obtain ⟨p9, c9, rfl, hi9, _⟩ := hk9.1
    rw [HLEN.out]
    obtain ⟨b9, o9, rfl, hc9⟩ := hi9.some HNE.out
    have ha := hc9 0 HPO.out
    have hs0 := HS0.out
    obtain ⟨x, hx⟩ : ∃ x, x = S.book.getD 0 none0 := ⟨_, rfl⟩
    rw [← hx] at ha hs0
    obtain ⟨sx, nx, bx⟩ := x
    obtain ⟨a1, a2, a3⟩ := ha
    simp only at a1 a2 a3
    have CN := seen_ref sx nx bx w9
    rw [hs0] at CN
    have K9 : Hid (Below w.heap.size w w9) := bel K8.out hb9
    simp only [Nat.zero_mul, Nat.add_zero] at a1 a2 a3
    clear hk9 hb9 K8 HD8 hi9 hc9 hs0 hx hc R1 R2
    go_wp2_with fail
    refine CN.mono ?_
    rintro e w10 ⟨rfl, hb10⟩
    have K10 : Hid (Below w.heap.size w w10) := bel K9.out hb10
    clear CN hb10
    go_wp2_with fail
    go_ret
    exact ⟨rfl, K10.out⟩

end Sq8
end Go.Proofs.Ytiiiineipajhmaa
