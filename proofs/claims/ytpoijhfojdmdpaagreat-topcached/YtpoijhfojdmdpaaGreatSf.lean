/- Package dir: Stretches, Locate, Slice, Of. -/
import Derived.Test.YtpoijhfojdmdpaaGreatSe
import Derived.Deep.QuietTactic
import Derived.BigQuiet
namespace Go.Proofs.YtpoijhfojdmdpaaGreat
namespace Sf
set_option linter.unusedVariables false
open Go.ChangeShapes Go.WideShapes Go.ChangeAt Go.RowKit Cm Ka Kb Na Sm Sb Sd Se
open La (bel bel_drew errV_zero errV_ne own_ge own_grow own_below LeafsIn Lies)
open Bm (Leaf ahd bookE text)
open Op (bytesLess)

theorem Mks_shape {w : World} {v : Value} {l : List Mk} (h : MksAt w v l) : ∃ p n c, v = .slice p n c := by obtain ⟨p, c, e, _⟩ := h; exact ⟨_, _, _, e⟩
theorem err_shape (k : Int) : errV k = .nilIface ∨ ∃ z, errV k = .iface 69 (.int .i64 z) := by
  unfold errV; split
  · exact Or.inl rfl
  · exact Or.inr ⟨_, rfl⟩
set_option maxRecDepth 100000 in
theorem stretches_dir (q : Option Addr) (n c : Nat) (l : List Leaf) (u : Value) (m : List Mk) (w : World) (hl : l.length = n) (h : LeafsIn w q l) (hs : ∀ x ∈ l, x.1.size ≤ maxLen) (hn : n ≤ c) (hcm : c ≤ maxLen) (hA : MksAt w u m) (hsm : ∀ x ∈ m, x.1.size ≤ maxLen) :
    Calls Tryz.prog 9 #[.slice q n c, u] w fun e w' => ∃ v, e = .returned (.tuple #[v, errV (dirE l m)]) ∧ DirAt w w' l m v := by
  have C := cut_any q n c l u m w hl h hs hn hcm hA hsm
  obtain ⟨pu, nu, cu, hu⟩ := Mks_shape hA
  obtain ⟨T, hT⟩ : ∃ T, T = textD l m := ⟨_, rfl⟩
  obtain ⟨E, hE⟩ : ∃ E, E = errV (dirE l m) := ⟨_, rfl⟩
  rw [← hT, ← hE] at C
  rw [← hE]
  rw [hu] at C ⊢
  clear hl h hs hn hcm hA hsm hu hT hE
  go_enter Tryz.func9, Tryz.ntmps9
  go_wp2_with fail
  refine C.mono ?_
  rintro e w1 ⟨v1, rfl, hd1⟩
  have HD1 : Hid (DirAt w w1 l m v1) := hd1
  clear hd1 C
  go_wp2_with fail
  go_ret2
  exact ⟨v1, rfl, HD1.out⟩

/- what is said of a book or of marks that are wrong is said first -/
theorem locE_ne {l : List Leaf} {m : List Mk} {o : Int} (h : dirE l m ≠ 0) : locE l m o = dirE l m ∧ locI l m o = 0 ∧ locJ l m o = 0 := ⟨by unfold locE; rw [if_pos h], by unfold locI; rw [if_neg h], by unfold locJ; rw [if_neg h]⟩
theorem locE_some {l : List Leaf} {m : List Mk} {o : Int} {k : Nat} (h : dirE l m = 0) (hk : locO l m o = some k) : locE l m o = 0 ∧ locI l m o = k ∧ locJ l m o = o - beg l (heads m) k := ⟨by unfold locE; rw [if_neg (by simp [h]), hk]; rfl, by unfold locI; rw [if_pos h, hk]; rfl, by unfold locJ; rw [if_pos h, hk]⟩
theorem locE_none {l : List Leaf} {m : List Mk} {o : Int} (h : dirE l m = 0) (hk : locO l m o = none) : locE l m o = 1 ∧ locI l m o = 0 ∧ locJ l m o = 0 := ⟨by unfold locE; rw [if_neg (by simp [h]), hk]; rfl, by unfold locI; rw [if_pos h, hk]; rfl, by unfold locJ; rw [if_pos h, hk]⟩
theorem stD_ok {l : List Leaf} {m : List Mk} (h : dirE l m = 0) : stD l m = stretches l m := by unfold stD; rw [if_pos h]
theorem beg_300 {l : List Leaf} (h : bookE l = 0) (H : List ByteArray) (k : Nat) : beg l H k ≤ 300 := by
  have h8 := beg_le l H k; have h9 := Bm.text_len_le l; have := (Bm.bookE_zero.1 h).1; omega
theorem mks_at {w : World} {g n c : Nat} {l : List Leaf} {m : List Mk} (h : MksAt w (.slice (some ⟨g, 0, none⟩) n c) (stretches l m)) (k : Nat) (hk : k < (heads m).length) : MAt w g 0 k (stOf l (heads m) k) := by
  obtain ⟨p, c', e, hin, _⟩ := h
  injection e with e1 e2 e3
  subst e1
  obtain ⟨b, o, e, hc⟩ := hin.some (by intro e; have := stretches_len l m; rw [e] at this; have := heads_pos m; simp at *; omega)
  injection e with e
  injection e with e1 e2
  subst e1 e2
  have h9 := hc k (by rw [stretches_len]; exact hk)
  rw [List.getD_eq_getElem?_getD, stretches_at hk] at h9
  exact h9

set_option maxRecDepth 100000 in
set_option maxHeartbeats 2000000 in
theorem locate_any (q : Option Addr) (n c : Nat) (l : List Leaf) (u : Value) (m : List Mk) (f : Int) (w : World) (hl : l.length = n) (h : LeafsIn w q l) (hs : ∀ x ∈ l, x.1.size ≤ maxLen) (hn : n ≤ c) (hcm : c ≤ maxLen) (hA : MksAt w u m) (hsm : ∀ x ∈ m, x.1.size ≤ maxLen) :
    Calls Tryz.prog 12 #[.slice q n c, u, .int .i64 f] w fun e w' => e = .returned (.tuple #[.int .i64 (locI l m f : Int), .int .i64 (locJ l m f), errV (locE l m f)]) ∧ Below w.heap.size w w' := by
  have C := cut_any q n c l u m w hl h hs hn hcm hA hsm
  obtain ⟨pu, nu, cu, hu⟩ := Mks_shape hA
  obtain ⟨T, hT⟩ : ∃ T, T = textD l m := ⟨_, rfl⟩
  rw [← hT] at C
  rw [hu] at C ⊢
  by_cases h0 : dirE l m = 0
  · rw [h0, errV_zero] at C
    have hbm := dirE_zero.1 h0
    have HBG : Hid (∀ k, beg l (heads m) k ≤ 300) := beg_300 hbm.1 _
    have HRI : Hid (Bm.Rise l ∧ marksE m = 0) := ⟨(Lf.book_ok hbm.1).2.1, hbm.2⟩
    have HH4 : Hid ((heads m).length ≤ 41) := heads_len hbm.2
    have H0 : Hid (dirE l m = 0) := h0
    clear hl h hs hn hcm hA hsm hu hT h0 hbm
    go_enter Tryz.func12, Tryz.ntmps12
    go_wp2_with fail
    refine C.mono ?_
    rintro e w1 ⟨v1, rfl, hd1⟩
    obtain ⟨hm1, hb1, hg1, _⟩ := hd1
    obtain ⟨g, cd, rfl, hgl⟩ := hg1 H0.out
    rw [stD_ok H0.out] at hm1
    have HM1 : Hid (∀ k, k < (heads m).length → MAt w1 g 0 k (stOf l (heads m) k)) := mks_at hm1
    have HB1 : Hid (Below w.heap.size w w1) := hb1
    obtain ⟨nh, hnh⟩ : ∃ nh, nh = (heads m).length := ⟨_, rfl⟩
    rw [← hnh] at HM1 HH4 ⊢
    have HNH : Hid (nh = (heads m).length) := hnh
    have hn41 : nh ≤ 41 := HH4.out
    clear hm1 hb1 hg1 hgl C hnh
    go_wp2_with fail
    go_loopw [26] (fun vi wr => ∃ (k : Nat), k ≤ nh ∧ vi = .int .i64 k ∧ Hid (∀ j, j < k → ¬ ((beg l (heads m) j : Int) ≤ f ∧ f < beg l (heads m) (j + 1))) ∧ Hid (Below w1.heap.size w1 wr)) (fun vi _ => nh - (intOf vi).toNat)
    case atStart => exact ⟨0, by omega, rfl, fun j hj => absurd hj (by omega), Below.refl _ _⟩
    case round =>
      obtain ⟨k, hk, rfl, HNO, HB⟩ := hrel
      by_cases hlt : k < nh
      · have hltz : (k : Int) < nh := by omega
        have ha := (HM1.out k hlt).below HB.out (HM1.out k hlt).lt
        obtain ⟨a1, a2, a3⟩ := ha
        simp only [stOf, Nat.zero_add] at a1 a2 a3
        obtain ⟨b0, hb0⟩ : ∃ b0, b0 = beg l (heads m) k := ⟨_, rfl⟩
        obtain ⟨b1, hb1⟩ : ∃ b1, b1 = beg l (heads m) (k + 1) := ⟨_, rfl⟩
        obtain ⟨sp, hsp⟩ : ∃ sp, sp = (heads m).getD k ByteArray.empty := ⟨_, rfl⟩
        rw [← hb0] at a2 a3
        rw [← hb1] at a3
        rw [← hsp] at a1
        have h3a : b0 ≤ 300 := by rw [hb0]; exact HBG.out _
        have h3b : b1 ≤ 300 := by rw [hb1]; exact HBG.out _
        obtain ⟨d, hd⟩ : ∃ d : Int, d = (b1 : Int) - b0 := ⟨_, rfl⟩
        rw [← hd] at a3
        have hw : IntKind.i64.wrap ((b0 : Int) + d) = (b1 : Int) := by rw [hd, show (b0 : Int) + (b1 - b0) = b1 by omega]; exact wrap_in3 (by omega) (by omega)
        have HBK : Hid (b0 = beg l (heads m) k ∧ b1 = beg l (heads m) (k + 1)) := ⟨hb0, hb1⟩
        have HBA : Hid (Below w1.heap.size w1 (wr.alloc (.cells #[.string sp, .int .i64 b0, .int .i64 d] 52))) := HB.out.alloc HB.out.size _
        clear hb0 hb1 hsp hd
        by_cases hf1 : (b0 : Int) ≤ f
        · by_cases hf2 : f < (b1 : Int)
          · have HR : Hid (locE l m f = 0 ∧ locI l m f = k ∧ locJ l m f = f - b0) := by
              have h9 := locE_some H0.out (loc_is (o := f) (k := k) HRI.out.1 HRI.out.2 (by rw [← HNH.out]; exact hlt) (by rw [← HBK.out.1]; exact hf1) (by rw [← HBK.out.2]; exact hf2))
              rw [← HBK.out.1] at h9; exact h9
            have hw2 : IntKind.i64.wrap (f - (b0 : Int)) = f - b0 := wrap_in3 (by omega) (by omega)
            go_wp2_with fail
            go_quiet (fail)
            go_wp2_with fail
            go_ret3
            exact ⟨by rw [HR.out.1, HR.out.2.1, HR.out.2.2]; rfl, bel HB1.out (bel_drew HBA.out _)⟩
          · have HNO2 : Hid (∀ j, j < k + 1 → ¬ ((beg l (heads m) j : Int) ≤ f ∧ f < beg l (heads m) (j + 1))) := by
              intro j hj
              rcases Nat.lt_succ_iff_lt_or_eq.1 hj with h9 | rfl
              · exact HNO.out j h9
              · rw [← HBK.out.1, ← HBK.out.2]; exact fun h9 => hf2 h9.2
            go_wp2_with fail
            go_roundw
            case rel => exact ⟨k + 1, by omega, by go_num, HNO2, HBA⟩
            case measure => simp [intOf]; omega
        · have HNO2 : Hid (∀ j, j < k + 1 → ¬ ((beg l (heads m) j : Int) ≤ f ∧ f < beg l (heads m) (j + 1))) := by
            intro j hj
            rcases Nat.lt_succ_iff_lt_or_eq.1 hj with h9 | rfl
            · exact HNO.out j h9
            · rw [← HBK.out.1, ← HBK.out.2]; exact fun h9 => hf1 h9.1
          go_wp2_with fail
          go_roundw
          case rel => exact ⟨k + 1, by omega, by go_num, HNO2, HBA⟩
          case measure => simp [intOf]; omega
      · obtain rfl : k = nh := by omega
        have hltz : ¬ (k : Int) < k := by omega
        have HR : Hid (locE l m f = 1 ∧ locI l m f = 0 ∧ locJ l m f = 0) := locE_none (o := f) H0.out (loc_not fun j hj => HNO.out j (by rw [HNH.out]; exact hj))
        go_wp2_with fail
        go_ret3
        exact ⟨by rw [HR.out.1, HR.out.2.1, HR.out.2.2]; rfl, bel HB1.out HB.out⟩
  · rw [errV_ne h0] at C
    have HR : Hid (locE l m f = dirE l m ∧ locI l m f = 0 ∧ locJ l m f = 0) := locE_ne h0
    rw [HR.out.1, HR.out.2.1, HR.out.2.2, errV_ne h0]
    obtain ⟨z, hz⟩ : ∃ z, z = dirE l m := ⟨_, rfl⟩
    rw [← hz] at C ⊢
    clear hl h hs hn hcm hA hsm hu hT h0 hz
    go_enter Tryz.func12, Tryz.ntmps12
    go_wp2_with fail
    refine C.mono ?_
    rintro e w1 ⟨v1, rfl, hd1⟩
    have HD1 : Hid (DirAt w w1 l m v1) := hd1
    clear hd1 C
    go_wp2_with fail
    go_ret3
    exact ⟨rfl, HD1.out.2.1⟩

theorem sliE_ne {l : List Leaf} {m : List Mk} {i : Int} (h : dirE l m ≠ 0) : sliE l m i = dirE l m ∧ sliR l m i = ⟨#[]⟩ := by
  have e : sliE l m i = dirE l m := by unfold sliE; rw [if_pos h]
  exact ⟨e, by unfold sliR; rw [if_neg (by rw [e]; exact h)]⟩
theorem sliE_out {l : List Leaf} {m : List Mk} {i : Int} (h : dirE l m = 0) (hi : ¬ (0 ≤ i ∧ i < (heads m).length)) : sliE l m i = 1 ∧ sliR l m i = ⟨#[]⟩ := by
  have e : sliE l m i = 1 := by unfold sliE; rw [if_neg (by simp [h]), if_neg hi]
  exact ⟨e, by unfold sliR; rw [if_neg (by rw [e]; omega)]⟩
theorem sliE_in {l : List Leaf} {m : List Mk} {k : Nat} (h : dirE l m = 0) (hi : k < (heads m).length) : sliE l m k = 0 ∧ sliR l m k = ⟨(sliceB l (heads m) k).toArray⟩ := by
  have e : sliE l m k = 0 := by unfold sliE; rw [if_neg (by simp [h]), if_pos ⟨by omega, by omega⟩]
  exact ⟨e, by unfold sliR; rw [if_pos e]; rfl⟩
theorem mk_list (l : List UInt8) : (⟨l.toArray⟩ : ByteArray).toList = l := ByteArray.toList_mk l
theorem cut_slice (l : List Leaf) (H : List ByteArray) (k : Nat) : (⟨(text l).toArray⟩ : ByteArray).extract (beg l H k) (beg l H (k + 1)) = ⟨(sliceB l H k).toArray⟩ := by
  apply Bm.bytes_inj
  rw [ByteArray.toList_eq, ByteArray.data_extract, Array.toList_extract, List.extract_eq_take_drop, mk_list]
  unfold sliceB
  rw [← List.drop_take]

set_option maxRecDepth 100000 in
set_option maxHeartbeats 2000000 in
theorem slice_any (q : Option Addr) (n c : Nat) (l : List Leaf) (u : Value) (m : List Mk) (f : Int) (w : World) (hl : l.length = n) (h : LeafsIn w q l) (hs : ∀ x ∈ l, x.1.size ≤ maxLen) (hn : n ≤ c) (hcm : c ≤ maxLen) (hA : MksAt w u m) (hsm : ∀ x ∈ m, x.1.size ≤ maxLen) :
    Calls Tryz.prog 14 #[.slice q n c, u, .int .i64 f] w fun e w' => e = .returned (.tuple #[.string (sliR l m f), errV (sliE l m f)]) ∧ Below w.heap.size w w' := by
  have C := cut_any q n c l u m w hl h hs hn hcm hA hsm
  obtain ⟨pu, nu, cu, hu⟩ := Mks_shape hA
  rw [hu] at C ⊢
  by_cases h0 : dirE l m = 0
  · rw [h0, errV_zero, show textD l m = ⟨(text l).toArray⟩ by unfold textD; rw [if_pos h0]] at C
    have hbm := dirE_zero.1 h0
    have HBG : Hid (∀ k, beg l (heads m) k ≤ (text l).length) := beg_le l _
    have HTL : Hid ((text l).length ≤ 300) := by have h9 := Bm.text_len_le l; have := (Bm.bookE_zero.1 hbm.1).1; unfold Hid; omega
    have HRI : Hid (Bm.Rise l ∧ marksE m = 0) := ⟨(Lf.book_ok hbm.1).2.1, hbm.2⟩
    have HH4 : Hid ((heads m).length ≤ 41) := heads_len hbm.2
    have H0 : Hid (dirE l m = 0) := h0
    obtain ⟨T, hT⟩ : ∃ T : ByteArray, T = ⟨(text l).toArray⟩ := ⟨_, rfl⟩
    have HTE : Hid (T = ⟨(text l).toArray⟩) := hT
    have HTS : Hid (T.size = (text l).length) := by rw [hT]; rfl
    rw [← hT] at C
    clear hl h hs hn hcm hA hsm hu hT h0 hbm
    by_cases hin : 0 ≤ f ∧ f < (heads m).length
    · obtain ⟨k, rfl⟩ : ∃ k : Nat, f = (k : Int) := ⟨f.toNat, by omega⟩
      have hk : k < (heads m).length := by omega
      have HR : Hid (sliE l m (k : Int) = 0 ∧ sliR l m (k : Int) = ⟨(sliceB l (heads m) k).toArray⟩) := sliE_in H0.out hk
      rw [HR.out.1, HR.out.2, errV_zero]
      have HK : Hid (k < (heads m).length) := hk
      clear hin hk
      go_enter Tryz.func14, Tryz.ntmps14
      go_wp2_with fail
      refine C.mono ?_
      rintro e w1 ⟨v1, rfl, hd1⟩
      obtain ⟨hm1, hb1, hg1, _⟩ := hd1
      obtain ⟨g, cd, rfl, hgl⟩ := hg1 H0.out
      rw [stD_ok H0.out] at hm1
      have ha := mks_at hm1 k HK.out
      have HB1 : Hid (Below w.heap.size w w1) := hb1
      obtain ⟨nh, hnh⟩ : ∃ nh, nh = (heads m).length := ⟨_, rfl⟩
      rw [← hnh] at HK HH4 ⊢
      have hn41 : nh ≤ 41 := HH4.out
      have hkn : k < nh := HK.out
      have hkz : (k : Int) < nh := by omega
      obtain ⟨a1, a2, a3⟩ := ha
      simp only [stOf, Nat.zero_add] at a1 a2 a3
      obtain ⟨b0, hb0⟩ : ∃ b0, b0 = beg l (heads m) k := ⟨_, rfl⟩
      obtain ⟨b1, hb1'⟩ : ∃ b1, b1 = beg l (heads m) (k + 1) := ⟨_, rfl⟩
      obtain ⟨sp, hsp⟩ : ∃ sp, sp = (heads m).getD k ByteArray.empty := ⟨_, rfl⟩
      rw [← hb0] at a2 a3
      rw [← hb1'] at a3
      rw [← hsp] at a1
      have h3a : b0 ≤ b1 := by rw [hb0, hb1']; exact beg_mono HRI.out.1 HRI.out.2 (Nat.le_succ k)
      have h3b : b1 ≤ T.size := by rw [hb1', HTS.out]; exact HBG.out _
      have h3c : T.size ≤ 300 := by rw [HTS.out]; exact HTL.out
      have h3z : (b0 : Int) ≤ b1 := by omega
      have h3y : (b1 : Int) ≤ T.size := by omega
      obtain ⟨d, hd⟩ : ∃ d : Int, d = (b1 : Int) - b0 := ⟨_, rfl⟩
      rw [← hd] at a3
      have hw : IntKind.i64.wrap ((b0 : Int) + d) = (b1 : Int) := by rw [hd, show (b0 : Int) + (b1 - b0) = b1 by omega]; exact wrap_in3 (by omega) (by omega)
      have HSL : Hid (T.extract b0 b1 = ⟨(sliceB l (heads m) k).toArray⟩) := by unfold Hid; rw [HTE.out, hb0, hb1']; exact cut_slice l _ k
      have HBA : Hid (Below w.heap.size w (w1.alloc (.cells #[.string sp, .int .i64 b0, .int .i64 d] 52))) := HB1.out.alloc HB1.out.size _
      clear hb0 hb1' hsp hd hm1 hb1 hg1 hgl C hnh
      go_wp2_with fail
      go_ret2
      exact ⟨by rw [← HSL.out]; rfl, HBA.out⟩
    · have HR : Hid (sliE l m f = 1 ∧ sliR l m f = ⟨#[]⟩) := sliE_out H0.out hin
      have HIN : Hid (¬ (0 ≤ f ∧ f < (heads m).length)) := hin
      rw [HR.out.1, HR.out.2]
      clear hin
      go_enter Tryz.func14, Tryz.ntmps14
      go_wp2_with fail
      refine C.mono ?_
      rintro e w1 ⟨v1, rfl, hd1⟩
      obtain ⟨hm1, hb1, hg1, _⟩ := hd1
      obtain ⟨g, cd, rfl, hgl⟩ := hg1 H0.out
      have HB1 : Hid (Below w.heap.size w w1) := hb1
      obtain ⟨nh, hnh⟩ : ∃ nh, nh = (heads m).length := ⟨_, rfl⟩
      rw [← hnh] at HH4 HIN ⊢
      have hn41 : nh ≤ 41 := HH4.out
      clear hm1 hb1 hg1 hgl C hnh
      by_cases hf0 : f < 0
      · go_wp2_with fail
        go_ret2
        exact ⟨rfl, HB1.out⟩
      · have hf1 : (nh : Int) ≤ f := by have h9 := HIN.out; omega
        go_wp2_with fail
        go_ret2
        exact ⟨rfl, HB1.out⟩
  · rw [errV_ne h0] at C
    have HR : Hid (sliE l m f = dirE l m ∧ sliR l m f = ⟨#[]⟩) := sliE_ne h0
    rw [HR.out.1, HR.out.2, errV_ne h0]
    obtain ⟨T, hT⟩ : ∃ T, T = textD l m := ⟨_, rfl⟩
    obtain ⟨z, hz⟩ : ∃ z, z = dirE l m := ⟨_, rfl⟩
    rw [← hz, ← hT] at C
    rw [← hz]
    clear hl h hs hn hcm hA hsm hu hT h0 hz
    go_enter Tryz.func14, Tryz.ntmps14
    go_wp2_with fail
    refine C.mono ?_
    rintro e w1 ⟨v1, rfl, hd1⟩
    have HD1 : Hid (DirAt w w1 l m v1) := hd1
    clear hd1 C
    go_wp2_with fail
    go_ret2
    exact ⟨rfl, HD1.out.2.1⟩

theorem ofE_ne {l : List Leaf} {m : List Mk} {p : ByteArray} (h : dirE l m ≠ 0) : ofE l m p = dirE l m ∧ ofR l m p = 0 := by
  have e : ofE l m p = dirE l m := by unfold ofE; rw [if_pos h]
  exact ⟨e, by unfold ofR; rw [if_neg (by rw [e]; exact h)]⟩
theorem ofE_wrong {l : List Leaf} {m : List Mk} {p : ByteArray} (h : dirE l m = 0) (hp : ¬ Pm.chk p.toList = 0) : ofE l m p = Pm.chk p.toList ∧ ofR l m p = 0 := by
  have e : ofE l m p = Pm.chk p.toList := by unfold ofE; rw [if_neg (by simp [h])]
  exact ⟨e, by unfold ofR; rw [if_neg (by rw [e]; exact hp)]⟩
theorem ofE_ok {l : List Leaf} {m : List Mk} {p : ByteArray} (h : dirE l m = 0) (hp : Pm.chk p.toList = 0) : ofE l m p = 0 ∧ ofR l m p = ofTo (heads m) p (heads m).length := by
  have e : ofE l m p = 0 := by unfold ofE; rw [if_neg (by simp [h])]; exact hp
  exact ⟨e, by unfold ofR; rw [if_pos e]⟩

end Sf
end Go.Proofs.YtpoijhfojdmdpaaGreat
