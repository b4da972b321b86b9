/- Package dir: Stretches, Locate, Slices, Slice, Of. -/
import Derived.Test.YtllcmfbkingfdaaDoorSe
import Derived.Deep.QuietTactic
import Derived.OwnWalk
import Derived.Laws.OwnMore
import Derived.BigQuiet
namespace Go.Proofs.YtllcmfbkingfdaaDoor
namespace Sf
set_option linter.unusedVariables false
open Go.ChangeShapes Go.WideShapes Go.ChangeAt Go.RowKit Cm Ka Kb Na Sm Sb Sd Se
open La (bel bel_drew errV_zero errV_ne own_ge own_grow own_below LeafsIn Lies)
open Bm (Leaf ahd bookE text)
open Op (bytesLess)

theorem Mks_shape {w : World} {v : Value} {l : List Mk} (h : MksAt w v l) : ∃ p n c, v = .slice p n c := by obtain ⟨p, c, e, _⟩ := h; exact ⟨_, _, _, e⟩
theorem err_shape (k : Int) : errV k = .nilIface ∨ ∃ z, errV k = .iface 59 (.int .i64 z) := by
  unfold errV; split
  · exact Or.inl rfl
  · exact Or.inr ⟨_, rfl⟩
set_option maxRecDepth 100000 in
theorem stretches_dir (q : Option Addr) (n c : Nat) (l : List Leaf) (u : Value) (m : List Mk) (w : World) (hl : l.length = n) (h : LeafsIn w q l) (hs : ∀ x ∈ l, x.1.size ≤ maxLen) (hn : n ≤ c) (hcm : c ≤ maxLen) (hA : MksAt w u m) (hsm : ∀ x ∈ m, x.1.size ≤ maxLen) :
    Calls Tryd.prog 13 #[.slice q n c, u] w fun e w' => ∃ v, e = .returned (.tuple #[v, errV (dirE l m)]) ∧ DirAt w w' l m v := by
  have C := cut_any q n c l u m w hl h hs hn hcm hA hsm
  obtain ⟨pu, nu, cu, hu⟩ := Mks_shape hA
  obtain ⟨T, hT⟩ : ∃ T, T = textD l m := ⟨_, rfl⟩
  obtain ⟨E, hE⟩ : ∃ E, E = errV (dirE l m) := ⟨_, rfl⟩
  rw [← hT, ← hE] at C
  rw [← hE]
  rw [hu] at C ⊢
  clear hl h hs hn hcm hA hsm hu hT hE
  go_enter Tryd.func13, Tryd.ntmps13
  go_wp2_with fail
  refine C.mono ?_
  rintro e w1 ⟨v1, rfl, hd1⟩
  have HD1 : Hid (DirAt w w1 l m v1) := hd1
  clear hd1 C
  go_wp2_with fail
  go_ret2
  exact ⟨v1, rfl, HD1.out⟩

/- what is said of a book or of marks that are wrong is said first -/
theorem locE_ne {l : List Leaf} {m : List Mk} {o : Int} (h : dirE l m ≠ 0) : locE l m o = dirE l m ∧ locI l m o = 0 ∧ locJ l m o = 0 := ⟨by unfold locE; rw [if_pos h], by unfold locI; rw [if_neg h], by unfold locJ; rw [if_neg h]⟩
theorem locE_some {l : List Leaf} {m : List Mk} {o : Int} {k : Nat} (h : dirE l m = 0) (hk : locO l m o = some k) : locE l m o = 0 ∧ locI l m o = k ∧ locJ l m o = o - beg l (heads m) k := ⟨by unfold locE; rw [if_neg (by simp [h]), hk]; rfl, by unfold locI; rw [if_pos h, hk]; rfl, by unfold locJ; rw [if_pos h, hk]⟩
theorem locE_none {l : List Leaf} {m : List Mk} {o : Int} (h : dirE l m = 0) (hk : locO l m o = none) : locE l m o = 1 ∧ locI l m o = 0 ∧ locJ l m o = 0 := ⟨by unfold locE; rw [if_neg (by simp [h]), hk]; rfl, by unfold locI; rw [if_pos h, hk]; rfl, by unfold locJ; rw [if_pos h, hk]⟩
theorem stD_ok {l : List Leaf} {m : List Mk} (h : dirE l m = 0) : stD l m = stretches l m := by unfold stD; rw [if_pos h]
theorem beg_300 {l : List Leaf} (h : bookE l = 0) (H : List ByteArray) (k : Nat) : beg l H k ≤ 300 := by
  have h8 := beg_le l H k; have h9 := Bm.text_len_le l; have := (Bm.bookE_zero.1 h).1; omega
theorem mks_at {w : World} {g n c : Nat} {l : List Leaf} {m : List Mk} (h : MksAt w (.slice (some ⟨g, 0, none⟩) n c) (stretches l m)) (k : Nat) (hk : k < (heads m).length) : MAt w g 0 k (stOf l (heads m) k) := by
  obtain ⟨p, c', e, hin, _⟩ := h
  injection e with e1 e2 e3
  subst e1
  obtain ⟨b, o, e, hc⟩ := hin.some (by intro e; have := stretches_len l m; rw [e] at this; have := heads_pos m; simp at *; omega)
  injection e with e
  injection e with e1 e2
  subst e1 e2
  have h9 := hc k (by rw [stretches_len]; exact hk)
  rw [List.getD_eq_getElem?_getD, stretches_at hk] at h9
  exact h9

set_option maxRecDepth 100000 in
set_option maxHeartbeats 2000000 in
theorem locate_any (q : Option Addr) (n c : Nat) (l : List Leaf) (u : Value) (m : List Mk) (f : Int) (w : World) (hl : l.length = n) (h : LeafsIn w q l) (hs : ∀ x ∈ l, x.1.size ≤ maxLen) (hn : n ≤ c) (hcm : c ≤ maxLen) (hA : MksAt w u m) (hsm : ∀ x ∈ m, x.1.size ≤ maxLen) :
    Calls Tryd.prog 16 #[.slice q n c, u, .int .i64 f] w fun e w' => e = .returned (.tuple #[.int .i64 (locI l m f : Int), .int .i64 (locJ l m f), errV (locE l m f)]) ∧ Below w.heap.size w w' := by
  have C := cut_any q n c l u m w hl h hs hn hcm hA hsm
  obtain ⟨pu, nu, cu, hu⟩ := Mks_shape hA
  obtain ⟨T, hT⟩ : ∃ T, T = textD l m := ⟨_, rfl⟩
  rw [← hT] at C
  rw [hu] at C ⊢
  by_cases h0 : dirE l m = 0
  · rw [h0, errV_zero] at C
    have hbm := dirE_zero.1 h0
    have HBG : Hid (∀ k, beg l (heads m) k ≤ 300) := beg_300 hbm.1 _
    have HRI : Hid (Bm.Rise l ∧ marksE m = 0) := ⟨(Lf.book_ok hbm.1).2.1, hbm.2⟩
    have HH4 : Hid ((heads m).length ≤ 41) := heads_len hbm.2
    have H0 : Hid (dirE l m = 0) := h0
    clear hl h hs hn hcm hA hsm hu hT h0 hbm
    go_enter Tryd.func16, Tryd.ntmps16
    go_wp2_with fail
    refine C.mono ?_
    rintro e w1 ⟨v1, rfl, hd1⟩
    obtain ⟨hm1, hb1, hg1, _⟩ := hd1
    obtain ⟨g, cd, rfl, hgl⟩ := hg1 H0.out
    rw [stD_ok H0.out] at hm1
    have HM1 : Hid (∀ k, k < (heads m).length → MAt w1 g 0 k (stOf l (heads m) k)) := mks_at hm1
    have HB1 : Hid (Below w.heap.size w w1) := hb1
    obtain ⟨nh, hnh⟩ : ∃ nh, nh = (heads m).length := ⟨_, rfl⟩
    rw [← hnh] at HM1 HH4 ⊢
    have HNH : Hid (nh = (heads m).length) := hnh
    have hn41 : nh ≤ 41 := HH4.out
    clear hm1 hb1 hg1 hgl C hnh
    go_wp2_with fail
    go_loopw [26] (fun vi wr => ∃ (k : Nat), k ≤ nh ∧ vi = .int .i64 k ∧ Hid (∀ j, j < k → ¬ ((beg l (heads m) j : Int) ≤ f ∧ f < beg l (heads m) (j + 1))) ∧ Hid (Below w1.heap.size w1 wr)) (fun vi _ => nh - (intOf vi).toNat)
    case atStart => exact ⟨0, by omega, rfl, fun j hj => absurd hj (by omega), Below.refl _ _⟩
    case round =>
      obtain ⟨k, hk, rfl, HNO, HB⟩ := hrel
      by_cases hlt : k < nh
      · have hltz : (k : Int) < nh := by omega
        have ha := (HM1.out k hlt).below HB.out (HM1.out k hlt).lt
        obtain ⟨a1, a2, a3⟩ := ha
        simp only [stOf, Nat.zero_add] at a1 a2 a3
        obtain ⟨b0, hb0⟩ : ∃ b0, b0 = beg l (heads m) k := ⟨_, rfl⟩
        obtain ⟨b1, hb1⟩ : ∃ b1, b1 = beg l (heads m) (k + 1) := ⟨_, rfl⟩
        obtain ⟨sp, hsp⟩ : ∃ sp, sp = (heads m).getD k ByteArray.empty := ⟨_, rfl⟩
        rw [← hb0] at a2 a3
        rw [← hb1] at a3
        rw [← hsp] at a1
        have h3a : b0 ≤ 300 := by rw [hb0]; exact HBG.out _
        have h3b : b1 ≤ 300 := by rw [hb1]; exact HBG.out _
        obtain ⟨d, hd⟩ : ∃ d : Int, d = (b1 : Int) - b0 := ⟨_, rfl⟩
        rw [← hd] at a3
        have hw : IntKind.i64.wrap ((b0 : Int) + d) = (b1 : Int) := by rw [hd, show (b0 : Int) + (b1 - b0) = b1 by omega]; exact wrap_in3 (by omega) (by omega)
        have HBK : Hid (b0 = beg l (heads m) k ∧ b1 = beg l (heads m) (k + 1)) := ⟨hb0, hb1⟩
        have HBA : Hid (Below w1.heap.size w1 (wr.alloc (.cells #[.string sp, .int .i64 b0, .int .i64 d] 45))) := HB.out.alloc HB.out.size _
        clear hb0 hb1 hsp hd
        by_cases hf1 : (b0 : Int) ≤ f
        · by_cases hf2 : f < (b1 : Int)
          · have HR : Hid (locE l m f = 0 ∧ locI l m f = k ∧ locJ l m f = f - b0) := by
              have h9 := locE_some H0.out (loc_is (o := f) (k := k) HRI.out.1 HRI.out.2 (by rw [← HNH.out]; exact hlt) (by rw [← HBK.out.1]; exact hf1) (by rw [← HBK.out.2]; exact hf2))
              rw [← HBK.out.1] at h9; exact h9
            have hw2 : IntKind.i64.wrap (f - (b0 : Int)) = f - b0 := wrap_in3 (by omega) (by omega)
            go_wp2_with fail
            go_quiet (fail)
            go_wp2_with fail
            go_ret3
            exact ⟨by rw [HR.out.1, HR.out.2.1, HR.out.2.2]; rfl, bel HB1.out (bel_drew HBA.out _)⟩
          · have HNO2 : Hid (∀ j, j < k + 1 → ¬ ((beg l (heads m) j : Int) ≤ f ∧ f < beg l (heads m) (j + 1))) := by
              intro j hj
              rcases Nat.lt_succ_iff_lt_or_eq.1 hj with h9 | rfl
              · exact HNO.out j h9
              · rw [← HBK.out.1, ← HBK.out.2]; exact fun h9 => hf2 h9.2
            go_wp2_with fail
            go_roundw
            case rel => exact ⟨k + 1, by omega, by go_num, HNO2, HBA⟩
            case measure => simp [intOf]; omega
        · have HNO2 : Hid (∀ j, j < k + 1 → ¬ ((beg l (heads m) j : Int) ≤ f ∧ f < beg l (heads m) (j + 1))) := by
            intro j hj
            rcases Nat.lt_succ_iff_lt_or_eq.1 hj with h9 | rfl
            · exact HNO.out j h9
            · rw [← HBK.out.1, ← HBK.out.2]; exact fun h9 => hf1 h9.1
          go_wp2_with fail
          go_roundw
          case rel => exact ⟨k + 1, by omega, by go_num, HNO2, HBA⟩
          case measure => simp [intOf]; omega
      · obtain rfl : k = nh := by omega
        have hltz : ¬ (k : Int) < k := by omega
        have HR : Hid (locE l m f = 1 ∧ locI l m f = 0 ∧ locJ l m f = 0) := locE_none (o := f) H0.out (loc_not fun j hj => HNO.out j (by rw [HNH.out]; exact hj))
        go_wp2_with fail
        go_ret3
        exact ⟨by rw [HR.out.1, HR.out.2.1, HR.out.2.2]; rfl, bel HB1.out HB.out⟩
  · rw [errV_ne h0] at C
    have HR : Hid (locE l m f = dirE l m ∧ locI l m f = 0 ∧ locJ l m f = 0) := locE_ne h0
    rw [HR.out.1, HR.out.2.1, HR.out.2.2, errV_ne h0]
    obtain ⟨z, hz⟩ : ∃ z, z = dirE l m := ⟨_, rfl⟩
    rw [← hz] at C ⊢
    clear hl h hs hn hcm hA hsm hu hT h0 hz
    go_enter Tryd.func16, Tryd.ntmps16
    go_wp2_with fail
    refine C.mono ?_
    rintro e w1 ⟨v1, rfl, hd1⟩
    have HD1 : Hid (DirAt w w1 l m v1) := hd1
    clear hd1 C
    go_wp2_with fail
    go_ret3
    exact ⟨rfl, HD1.out.2.1⟩

theorem sliE_ne {l : List Leaf} {m : List Mk} {i : Int} (h : dirE l m ≠ 0) : sliE l m i = dirE l m ∧ sliR l m i = ⟨#[]⟩ := by
  have e : sliE l m i = dirE l m := by unfold sliE; rw [if_pos h]
  exact ⟨e, by unfold sliR; rw [if_neg (by rw [e]; exact h)]⟩
theorem sliE_out {l : List Leaf} {m : List Mk} {i : Int} (h : dirE l m = 0) (hi : ¬ (0 ≤ i ∧ i < (heads m).length)) : sliE l m i = 1 ∧ sliR l m i = ⟨#[]⟩ := by
  have e : sliE l m i = 1 := by unfold sliE; rw [if_neg (by simp [h]), if_neg hi]
  exact ⟨e, by unfold sliR; rw [if_neg (by rw [e]; omega)]⟩
theorem sliE_in {l : List Leaf} {m : List Mk} {k : Nat} (h : dirE l m = 0) (hi : k < (heads m).length) : sliE l m k = 0 ∧ sliR l m k = ⟨(sliceB l (heads m) k).toArray⟩ := by
  have e : sliE l m k = 0 := by unfold sliE; rw [if_neg (by simp [h]), if_pos ⟨by omega, by omega⟩]
  exact ⟨e, by unfold sliR; rw [if_pos e]; rfl⟩
theorem mk_list (l : List UInt8) : (⟨l.toArray⟩ : ByteArray).toList = l := ByteArray.toList_mk l
theorem cut_slice (l : List Leaf) (H : List ByteArray) (k : Nat) : (⟨(text l).toArray⟩ : ByteArray).extract (beg l H k) (beg l H (k + 1)) = ⟨(sliceB l H k).toArray⟩ := by
  apply Bm.bytes_inj
  rw [ByteArray.toList_eq, ByteArray.data_extract, Array.toList_extract, List.extract_eq_take_drop, mk_list]
  unfold sliceB
  rw [← List.drop_take]

/- a row of texts of the call's own that is filled, one cell after the other -/
structure FillS (w : World) (g n : Nat) (F : Nat → ByteArray) (k : Nat) (wr : World) : Prop where
  done : ∀ j, j < k → wr.cell? ⟨g, j, none⟩ = some (.string (F j))
  any : ∀ j, j < n → ∃ v, wr.cell? ⟨g, j, none⟩ = some v
  free : ∀ j, wr.frozen? ⟨g, j, none⟩ = false
  bel : Below w.heap.size w wr
  ge : w.heap.size ≤ g
  lt : g < wr.heap.size
theorem FillS.start {w w1 : World} {t : TypeId} {F : Nat → ByteArray} {n cap : Nat} {g : Nat} {xs : List Value} (hg : w.heap.size ≤ g) (h : w1.ownsRow g t 1 (.slice (some ⟨g, 0, none⟩) n cap) n xs) (hb : Below w.heap.size w w1) : FillS w g n F 0 w1 := by
  rcases h.2 with ⟨e, _⟩ | ⟨g', cap', cur, e, _, h2, h3, h4, h5, h6⟩
  · cases e
  · injection e with e1
    injection e1 with e1
    injection e1 with e1
    subst e1
    refine ⟨fun j hj => absurd hj (by omega), fun j hj => ⟨cur[j]'(by omega), ?_⟩, fun j => by simp [World.frozen?, h2], hb, hg, (Array.getElem?_eq_some_iff.1 h2).1⟩
    simp only [World.cell?, h2]
    simp [show j < cur.size by omega]
theorem FillS.below {w wr w2 : World} {g n k : Nat} {F : Nat → ByteArray} (h : FillS w g n F k wr) (hb : Below wr.heap.size wr w2) : FillS w g n F k w2 :=
  ⟨fun j hj => by rw [hb.cell (p := ⟨g, j, none⟩) h.lt]; exact h.done j hj, fun j hj => by rw [hb.cell (p := ⟨g, j, none⟩) h.lt]; exact h.any j hj, fun j => by rw [hb.frozen (p := ⟨g, j, none⟩) h.lt]; exact h.free j, La.bel h.bel hb, h.ge, Nat.lt_of_lt_of_le h.lt hb.size⟩
theorem FillS.step {w wr : World} {g n k : Nat} {F : Nat → ByteArray} (h : FillS w g n F k wr) (hk : k < n) (v : ByteArray) (hv : v = F k) : FillS w g n F (k + 1) (wr.setCell ⟨g, k, none⟩ (.string v)) := by
  refine ⟨fun j hj => ?_, fun j hj => ?_, fun j => ?_, h.bel.setCell (p := ⟨g, k, none⟩) h.ge _, h.ge, by simpa using h.lt⟩
  · by_cases e : j = k
    · subst e
      obtain ⟨u, hu⟩ := h.any j hk
      rw [World.cell?_setCell_same _ _ _ hu, hv]
    · rw [World.cell?_setCell_other _ _ _ _ (by intro e2; injection e2; omega)]
      exact h.done j (by omega)
  · obtain ⟨u, hu⟩ := h.any j hj
    exact cell?_setCell_some hu
  · rw [World.frozen?_setCell]; exact h.free j
theorem infoS : (Tryd.prog.info? 9).map (fun i => (i.zero, i.size, i.bytes)) = some (some (.string ByteArray.empty), 1, 16) := by kernel_rfl
/- all slices -/
def slcR (l : List Leaf) (m : List Mk) (k : Nat) : ByteArray := ⟨(sliceB l (heads m) k).toArray⟩
structure SlcAt (w w' : World) (l : List Leaf) (m : List Mk) (v : Value) : Prop where
  bel : Below w.heap.size w w'
  bad : dirE l m ≠ 0 → v = .slice none 0 0
  ok : dirE l m = 0 → ∃ g, v = .slice (some ⟨g, 0, none⟩) (heads m).length (heads m).length ∧ w.heap.size ≤ g ∧ ∀ j, j < (heads m).length → w'.cell? ⟨g, j, none⟩ = some (.string (slcR l m j))

set_option maxRecDepth 100000 in
set_option maxHeartbeats 2000000 in
theorem slices_any (q : Option Addr) (n c : Nat) (l : List Leaf) (u : Value) (m : List Mk) (w : World) (hl : l.length = n) (h : LeafsIn w q l) (hs : ∀ x ∈ l, x.1.size ≤ maxLen) (hn : n ≤ c) (hcm : c ≤ maxLen) (hA : MksAt w u m) (hsm : ∀ x ∈ m, x.1.size ≤ maxLen) :
    Calls Tryd.prog 37 #[.slice q n c, u] w fun e w' => ∃ p n' c', e = .returned (.tuple #[.slice p n' c', errV (dirE l m)]) ∧ SlcAt w w' l m (.slice p n' c') := by
  have C := cut_any q n c l u m w hl h hs hn hcm hA hsm
  obtain ⟨pu, nu, cu, hu⟩ := Mks_shape hA
  rw [hu] at C ⊢
  by_cases h0 : dirE l m = 0
  · rw [h0, errV_zero, show textD l m = ⟨(text l).toArray⟩ by unfold textD; rw [if_pos h0]] at C
    rw [h0, errV_zero]
    have hbm := dirE_zero.1 h0
    have HBG : Hid (∀ k, beg l (heads m) k ≤ (text l).length) := beg_le l _
    have HTL : Hid ((text l).length ≤ 300) := by have h9 := Bm.text_len_le l; have := (Bm.bookE_zero.1 hbm.1).1; unfold Hid; omega
    have HRI : Hid (Bm.Rise l ∧ marksE m = 0) := ⟨(Lf.book_ok hbm.1).2.1, hbm.2⟩
    have HH4 : Hid ((heads m).length ≤ 41) := heads_len hbm.2
    have H0 : Hid (dirE l m = 0) := h0
    obtain ⟨T, hT⟩ : ∃ T : ByteArray, T = ⟨(text l).toArray⟩ := ⟨_, rfl⟩
    have HTE : Hid (T = ⟨(text l).toArray⟩) := hT
    have HTS : Hid (T.size = (text l).length) := by rw [hT]; rfl
    rw [← hT] at C
    obtain ⟨i0, hi, hz0, hz1, hz2⟩ := info_parts infoS
    clear hl h hs hn hcm hA hsm hu hT h0 hbm
    go_enter Tryd.func37, Tryd.ntmps37
    go_wp2_with fail
    refine C.mono ?_
    rintro e w1 ⟨v1, rfl, hd1⟩
    obtain ⟨hm1, hb1, hg1, _⟩ := hd1
    obtain ⟨g, cd, rfl, hgl⟩ := hg1 H0.out
    rw [stD_ok H0.out] at hm1
    have HM1 : Hid (∀ k, k < (heads m).length → MAt w1 g 0 k (stOf l (heads m) k)) := mks_at hm1
    have HB1 : Hid (Below w.heap.size w w1) := hb1
    obtain ⟨nh, hnh⟩ : ∃ nh, nh = (heads m).length := ⟨_, rfl⟩
    rw [← hnh] at HM1 HH4 ⊢
    have HNH : Hid (nh = (heads m).length) := hnh
    have hn41 : nh ≤ 41 := HH4.out
    clear hm1 hb1 hg1 hgl C hnh
    go_wp2_with (at_make; refine wpList_make_full _ rfl (.tmp 23) (.tmp 23) 55 rfl w1.heap.size 9 i0 (.string ByteArray.empty) 1 Tryd.underlying55 hi hz0 hz1 .i64 .i64 nh nh nh rfl rfl rfl rfl (by rw [hz2]; omega) (by unfold maxLen; omega) (Nat.le_refl _) ?_; intro w2 hown hgrow; have HF : Hid (FillS w1 w1.heap.size nh (slcR l m) 0 w2) := FillS.start (Nat.le_refl _) hown ((Below.refl _ w1).grown hgrow (Nat.le_refl _) (fun k hk => by cases hk)); clear hown hgrow)
    go_loopw [10, 11, 27] (fun _ _ vi wr => ∃ (k : Nat), k ≤ nh ∧ vi = .int .i64 k ∧ Hid (FillS w1 w1.heap.size nh (slcR l m) k wr)) (fun _ _ vi _ => nh - (intOf vi).toNat)
    case atStart => exact ⟨0, by omega, rfl, HF⟩
    case round =>
      clear HF
      obtain ⟨k, hk, rfl, HF⟩ := hrel
      by_cases hlt : k < nh
      · have hltz : (k : Int) < nh := by omega
        have ha := (HM1.out k hlt).below HF.out.bel (HM1.out k hlt).lt
        obtain ⟨a1, a2, a3⟩ := ha
        simp only [stOf, Nat.zero_add] at a1 a2 a3
        obtain ⟨b0, hb0⟩ : ∃ b0, b0 = beg l (heads m) k := ⟨_, rfl⟩
        obtain ⟨b1, hb1'⟩ : ∃ b1, b1 = beg l (heads m) (k + 1) := ⟨_, rfl⟩
        obtain ⟨sp, hsp⟩ : ∃ sp, sp = (heads m).getD k ByteArray.empty := ⟨_, rfl⟩
        rw [← hb0] at a2 a3
        rw [← hb1'] at a3
        rw [← hsp] at a1
        have h3a : b0 ≤ b1 := by rw [hb0, hb1']; exact beg_mono HRI.out.1 HRI.out.2 (Nat.le_succ k)
        have h3b : b1 ≤ T.size := by rw [hb1', HTS.out]; exact HBG.out _
        have h3c : T.size ≤ 300 := by rw [HTS.out]; exact HTL.out
        have h3z : (b0 : Int) ≤ b1 := by omega
        have h3y : (b1 : Int) ≤ T.size := by omega
        obtain ⟨d, hd⟩ : ∃ d : Int, d = (b1 : Int) - b0 := ⟨_, rfl⟩
        rw [← hd] at a3
        have hw : IntKind.i64.wrap ((b0 : Int) + d) = (b1 : Int) := by rw [hd, show (b0 : Int) + (b1 - b0) = b1 by omega]; exact wrap_in3 (by omega) (by omega)
        have HSL : Hid (T.extract b0 b1 = slcR l m k) := by unfold Hid slcR; rw [HTE.out, hb0, hb1']; exact cut_slice l _ k
        have HFA : Hid (FillS w1 w1.heap.size nh (slcR l m) k (wr.alloc (.cells #[.string sp, .int .i64 b0, .int .i64 d] 45))) := HF.out.below ((Below.refl _ wr).alloc (Nat.le_refl _) _)
        obtain ⟨old, d3⟩ := HFA.out.any k hlt
        have d4 := HFA.out.free k
        have HN : Hid (FillS w1 w1.heap.size nh (slcR l m) (k + 1) ((wr.alloc (.cells #[.string sp, .int .i64 b0, .int .i64 d] 45)).setCell ⟨w1.heap.size, k, none⟩ (.string (T.extract b0 b1)))) := HFA.out.step hlt _ HSL.out
        clear hb0 hb1' hsp hd
        go_wp2_with fail
        go_roundw
        case rel => exact ⟨k + 1, by omega, by go_num, HN⟩
        case measure => simp [intOf]; omega
      · obtain rfl : k = nh := by omega
        have hltz : ¬ (k : Int) < k := by omega
        go_wp2_with fail
        go_ret2
        refine ⟨_, _, _, rfl, bel HB1.out HF.out.bel, fun h9 => absurd H0.out h9, fun _ => ⟨w1.heap.size, by rw [HNH.out], HB1.out.size, fun j hj => HF.out.done j (by rw [HNH.out]; exact hj)⟩⟩
  · rw [errV_ne h0] at C
    rw [errV_ne h0]
    obtain ⟨T, hT⟩ : ∃ T, T = textD l m := ⟨_, rfl⟩
    have H0 : Hid (dirE l m ≠ 0) := h0
    obtain ⟨z, hz⟩ : ∃ z, z = dirE l m := ⟨_, rfl⟩
    rw [← hz, ← hT] at C
    rw [← hz]
    clear hl h hs hn hcm hA hsm hu hT h0 hz
    go_enter Tryd.func37, Tryd.ntmps37
    go_wp2_with fail
    refine C.mono ?_
    rintro e w1 ⟨v1, rfl, hd1⟩
    have HD1 : Hid (DirAt w w1 l m v1) := hd1
    clear hd1 C
    go_wp2_with fail
    go_ret2
    exact ⟨_, _, _, rfl, HD1.out.2.1, fun _ => rfl, fun h9 => absurd h9 H0.out⟩

set_option maxRecDepth 100000 in
set_option maxHeartbeats 2000000 in
theorem slice_any (q : Option Addr) (n c : Nat) (l : List Leaf) (u : Value) (m : List Mk) (f : Int) (w : World) (hl : l.length = n) (h : LeafsIn w q l) (hs : ∀ x ∈ l, x.1.size ≤ maxLen) (hn : n ≤ c) (hcm : c ≤ maxLen) (hA : MksAt w u m) (hsm : ∀ x ∈ m, x.1.size ≤ maxLen) :
    Calls Tryd.prog 18 #[.slice q n c, u, .int .i64 f] w fun e w' => e = .returned (.tuple #[.string (sliR l m f), errV (sliE l m f)]) ∧ Below w.heap.size w w' := by
  have C := slices_any q n c l u m w hl h hs hn hcm hA hsm
  obtain ⟨pu, nu, cu, hu⟩ := Mks_shape hA
  rw [hu] at C ⊢
  by_cases h0 : dirE l m = 0
  · rw [h0, errV_zero] at C
    have hbm := dirE_zero.1 h0
    have HH4 : Hid ((heads m).length ≤ 41) := heads_len hbm.2
    have H0 : Hid (dirE l m = 0) := h0
    clear hl h hs hn hcm hA hsm hu h0 hbm
    by_cases hin : 0 ≤ f ∧ f < (heads m).length
    · obtain ⟨k, rfl⟩ : ∃ k : Nat, f = (k : Int) := ⟨f.toNat, by omega⟩
      have hk : k < (heads m).length := by omega
      have HR : Hid (sliE l m (k : Int) = 0 ∧ sliR l m (k : Int) = slcR l m k) := sliE_in H0.out hk
      rw [HR.out.1, HR.out.2, errV_zero]
      have HK : Hid (k < (heads m).length) := hk
      clear hin hk
      go_enter Tryd.func18, Tryd.ntmps18
      go_wp2_with fail
      refine C.mono ?_
      rintro e w1 ⟨p1, n1, c1, rfl, hd1⟩
      obtain ⟨g, hv, hg, hc⟩ := hd1.ok H0.out
      injection hv with e1 e2 e3
      subst e1 e3
      have HB1 : Hid (Below w.heap.size w w1) := hd1.bel
      obtain ⟨nh, hnh⟩ : ∃ nh, nh = (heads m).length := ⟨_, rfl⟩
      rw [← hnh] at HK HH4 hc e2 ⊢
      have e2' := e2.symm
      subst e2'
      have hn41 : nh ≤ 41 := HH4.out
      have hkn : k < nh := HK.out
      have hkz : (k : Int) < nh := by omega
      have a1 := hc k hkn
      obtain ⟨sl, hsl⟩ : ∃ sl, sl = slcR l m k := ⟨_, rfl⟩
      rw [← hsl] at a1
      have HSL : Hid (sl = slcR l m k) := hsl
      clear hd1 hc hg C hnh hsl
      go_wp2_with fail
      go_ret2
      exact ⟨by rw [HSL.out]; rfl, HB1.out⟩
    · have HR : Hid (sliE l m f = 1 ∧ sliR l m f = ⟨#[]⟩) := sliE_out H0.out hin
      have HIN : Hid (¬ (0 ≤ f ∧ f < (heads m).length)) := hin
      rw [HR.out.1, HR.out.2]
      clear hin
      go_enter Tryd.func18, Tryd.ntmps18
      go_wp2_with fail
      refine C.mono ?_
      rintro e w1 ⟨p1, n1, c1, rfl, hd1⟩
      obtain ⟨g, hv, hg, hc⟩ := hd1.ok H0.out
      injection hv with e1 e2 e3
      subst e1 e3
      have HB1 : Hid (Below w.heap.size w w1) := hd1.bel
      obtain ⟨nh, hnh⟩ : ∃ nh, nh = (heads m).length := ⟨_, rfl⟩
      rw [← hnh] at HH4 HIN e2 ⊢
      have e2' := e2.symm
      subst e2'
      have hn41 : nh ≤ 41 := HH4.out
      clear hd1 hc hg C hnh
      by_cases hf0 : f < 0
      · go_wp2_with fail
        go_ret2
        exact ⟨rfl, HB1.out⟩
      · have hf1 : (nh : Int) ≤ f := by have h9 := HIN.out; omega
        go_wp2_with fail
        go_ret2
        exact ⟨rfl, HB1.out⟩
  · rw [errV_ne h0] at C
    have HR : Hid (sliE l m f = dirE l m ∧ sliR l m f = ⟨#[]⟩) := sliE_ne h0
    rw [HR.out.1, HR.out.2, errV_ne h0]
    obtain ⟨z, hz⟩ : ∃ z, z = dirE l m := ⟨_, rfl⟩
    rw [← hz] at C
    rw [← hz]
    clear hl h hs hn hcm hA hsm hu h0 hz
    go_enter Tryd.func18, Tryd.ntmps18
    go_wp2_with fail
    refine C.mono ?_
    rintro e w1 ⟨p1, n1, c1, rfl, hd1⟩
    have HB1 : Hid (Below w.heap.size w w1) := hd1.bel
    clear hd1 C
    go_wp2_with fail
    go_ret2
    exact ⟨rfl, HB1.out⟩

theorem ofE_ne {l : List Leaf} {m : List Mk} {p : ByteArray} (h : dirE l m ≠ 0) : ofE l m p = dirE l m ∧ ofR l m p = 0 := by
  have e : ofE l m p = dirE l m := by unfold ofE; rw [if_pos h]
  exact ⟨e, by unfold ofR; rw [if_neg (by rw [e]; exact h)]⟩
theorem ofE_wrong {l : List Leaf} {m : List Mk} {p : ByteArray} (h : dirE l m = 0) (hp : ¬ Pm.chk p.toList = 0) : ofE l m p = Pm.chk p.toList ∧ ofR l m p = 0 := by
  have e : ofE l m p = Pm.chk p.toList := by unfold ofE; rw [if_neg (by simp [h])]
  exact ⟨e, by unfold ofR; rw [if_neg (by rw [e]; exact hp)]⟩
theorem ofE_ok {l : List Leaf} {m : List Mk} {p : ByteArray} (h : dirE l m = 0) (hp : Pm.chk p.toList = 0) : ofE l m p = 0 ∧ ofR l m p = ofTo (heads m) p (heads m).length := by
  have e : ofE l m p = 0 := by unfold ofE; rw [if_neg (by simp [h])]; exact hp
  exact ⟨e, by unfold ofR; rw [if_pos e]⟩

set_option maxRecDepth 100000 in
set_option maxHeartbeats 2000000 in
theorem of_any (q : Option Addr) (n c : Nat) (l : List Leaf) (u : Value) (m : List Mk) (p : ByteArray) (w : World) (hl : l.length = n) (h : LeafsIn w q l) (hs : ∀ x ∈ l, x.1.size ≤ maxLen) (hn : n ≤ c) (hcm : c ≤ maxLen) (hA : MksAt w u m) (hsm : ∀ x ∈ m, x.1.size ≤ maxLen) (hp : p.size ≤ maxLen) :
    Calls Tryd.prog 20 #[.slice q n c, u, .string p] w fun e w' => e = .returned (.tuple #[.int .i64 (ofR l m p : Int), errV (ofE l m p)]) ∧ Below w.heap.size w w' := by
  have C := cut_any q n c l u m w hl h hs hn hcm hA hsm
  have HCK : Hid (∀ w2, Calls Tryd.prog 38 #[.string p] w2 fun e w' => e = .returned (errV (Pm.chk p.toList)) ∧ w' = w2) := fun w2 => check_any p w2 hp
  obtain ⟨pu, nu, cu, hu⟩ := Mks_shape hA
  obtain ⟨T, hT⟩ : ∃ T, T = textD l m := ⟨_, rfl⟩
  rw [← hT] at C
  rw [hu] at C ⊢
  by_cases h0 : dirE l m = 0
  · rw [h0, errV_zero] at C
    have hbm := dirE_zero.1 h0
    have HH4 : Hid ((heads m).length ≤ 41) := heads_len hbm.2
    have H0 : Hid (dirE l m = 0) := h0
    clear hl h hs hn hcm hA hsm hu hT h0 hbm hp
    by_cases hck : Pm.chk p.toList = 0
    · have HR : Hid (ofE l m p = 0 ∧ ofR l m p = ofTo (heads m) p (heads m).length) := ofE_ok H0.out hck
      rw [HR.out.1, HR.out.2, errV_zero]
      rw [hck, errV_zero] at HCK
      clear hck
      go_enter Tryd.func20, Tryd.ntmps20
      go_wp2_with fail
      refine C.mono ?_
      rintro e w1 ⟨v1, rfl, hd1⟩
      obtain ⟨hm1, hb1, hg1, _⟩ := hd1
      obtain ⟨g, cd, rfl, hgl⟩ := hg1 H0.out
      rw [stD_ok H0.out] at hm1
      have HM1 : Hid (∀ k, k < (heads m).length → MAt w1 g 0 k (stOf l (heads m) k)) := mks_at hm1
      have HB1 : Hid (Below w.heap.size w w1) := hb1
      have C2 := HCK.out w1
      obtain ⟨nh, hnh⟩ : ∃ nh, nh = (heads m).length := ⟨_, rfl⟩
      rw [← hnh] at HM1 HH4 ⊢
      have HNH : Hid (nh = (heads m).length) := hnh
      have hn41 : nh ≤ 41 := HH4.out
      clear hm1 hb1 hg1 hgl C hnh
      go_wp2_with fail
      refine C2.mono ?_
      rintro e w2 ⟨rfl, rfl⟩
      clear C2 HCK
      go_wp2_with fail
      go_loopw [12, 32] (fun vl vi wr => ∃ (k x : Nat), k ≤ nh ∧ vi = .int .i64 k ∧ vl = .int .i64 (x : Int) ∧ Hid (x = ofTo (heads m) p k) ∧ Hid (Below w2.heap.size w2 wr)) (fun _ vi _ => nh - (intOf vi).toNat)
      case atStart => exact ⟨0, 0, by omega, rfl, rfl, rfl, Below.refl _ _⟩
      case round =>
        obtain ⟨k, x, hk, rfl, rfl, HX, HB⟩ := hrel
        by_cases hlt : k < nh
        · have hltz : (k : Int) < nh := by omega
          have ha := (HM1.out k hlt).below HB.out (HM1.out k hlt).lt
          obtain ⟨a1, a2, a3⟩ := ha
          simp only [stOf, Nat.zero_add] at a1 a2 a3
          obtain ⟨sp, hsp⟩ : ∃ sp, sp = (heads m).getD k ByteArray.empty := ⟨_, rfl⟩
          obtain ⟨f, hf⟩ : ∃ f : Int, f = beg l (heads m) k := ⟨_, rfl⟩
          obtain ⟨d, hd⟩ : ∃ d : Int, d = (beg l (heads m) (k + 1) : Int) - beg l (heads m) k := ⟨_, rfl⟩
          rw [← hf] at a2
          rw [← hd] at a3
          rw [← hsp] at a1
          have HST : Hid (ofTo (heads m) p (k + 1) = if bytesLess p.toList sp.toList = true then ofTo (heads m) p k else k) := by rw [hsp]; rfl
          have HBA : Hid (Below w2.heap.size w2 (wr.alloc (.cells #[.string sp, .int .i64 f, .int .i64 d] 45))) := HB.out.alloc HB.out.size _
          clear hsp hf hd
          cases hls : bytesLess p.toList sp.toList
          · have HX2 : Hid (k = ofTo (heads m) p (k + 1)) := by unfold Hid; rw [HST.out, if_neg (by rw [hls]; simp)]
            cases hl2 : bytesLess sp.toList p.toList
            · have heq : (sp.toList == p.toList) = true := by
                by_cases h9 : sp.toList = p.toList
                · simpa using h9
                · rw [Bm.less_total hl2 h9] at hls; cases hls
              go_wp2_with fail
              go_roundw
              case rel => exact ⟨k + 1, k, by omega, by go_num, rfl, HX2, HBA⟩
              case measure => simp [intOf]; omega
            · go_wp2_with fail
              go_roundw
              case rel => exact ⟨k + 1, k, by omega, by go_num, rfl, HX2, HBA⟩
              case measure => simp [intOf]; omega
          · have HX2 : Hid (x = ofTo (heads m) p (k + 1)) := by unfold Hid; rw [HST.out, if_pos hls]; exact HX.out
            have hl2 : bytesLess sp.toList p.toList = false := Bm.less_asymm hls
            have heq : (sp.toList == p.toList) = false := by
              simp only [beq_eq_false_iff_ne, ne_eq]; intro h9; rw [h9, Bm.less_irrefl] at hls; cases hls
            go_wp2_with fail
            go_roundw
            case rel => exact ⟨k + 1, x, by omega, by go_num, rfl, HX2, HBA⟩
            case measure => simp [intOf]; omega
        · obtain rfl : k = nh := by omega
          have hltz : ¬ (k : Int) < k := by omega
          go_wp2_with fail
          go_ret2
          exact ⟨by rw [← HNH.out, ← HX.out]; rfl, bel HB1.out HB.out⟩
    · have HR : Hid (ofE l m p = Pm.chk p.toList ∧ ofR l m p = 0) := ofE_wrong H0.out hck
      rw [HR.out.1, HR.out.2, errV_ne hck]
      rw [errV_ne hck] at HCK
      obtain ⟨z, hz⟩ : ∃ z, z = Pm.chk p.toList := ⟨_, rfl⟩
      rw [← hz] at HCK ⊢
      clear hck hz
      go_enter Tryd.func20, Tryd.ntmps20
      go_wp2_with fail
      refine C.mono ?_
      rintro e w1 ⟨v1, rfl, hd1⟩
      have HB1 : Hid (Below w.heap.size w w1) := hd1.2.1
      have C2 := HCK.out w1
      clear hd1 C
      go_wp2_with fail
      refine C2.mono ?_
      rintro e w2 ⟨rfl, rfl⟩
      clear C2 HCK
      go_wp2_with fail
      go_ret2
      exact ⟨rfl, HB1.out⟩
  · rw [errV_ne h0] at C
    have HR : Hid (ofE l m p = dirE l m ∧ ofR l m p = 0) := ofE_ne h0
    rw [HR.out.1, HR.out.2, errV_ne h0]
    obtain ⟨z, hz⟩ : ∃ z, z = dirE l m := ⟨_, rfl⟩
    rw [← hz] at C ⊢
    clear hl h hs hn hcm hA hsm hu hT h0 hz hp HCK
    go_enter Tryd.func20, Tryd.ntmps20
    go_wp2_with fail
    refine C.mono ?_
    rintro e w1 ⟨v1, rfl, hd1⟩
    have HD1 : Hid (DirAt w w1 l m v1) := hd1
    clear hd1 C
    go_wp2_with fail
    go_ret2
    exact ⟨rfl, HD1.out.2.1⟩

end Sf
end Go.Proofs.YtllcmfbkingfdaaDoor
