/- DirWhole: the law's walk. -/
import Derived.Test.YtllcmfbkingfdaaSf
import Derived.Test.YtllcmfbkingfdaaJ2
namespace Go.Proofs.Ytllcmfbkingfdaa
namespace Sg
set_option linter.unusedVariables false
open Go.ChangeShapes Go.WideShapes Go.ChangeAt Go.RowKit Cm Ka Kb Na Sm Sb Sd Se Sf
open La (bel bel_drew errV_zero errV_ne own_ge own_grow own_below LeafsIn Lies)
open Bm (Leaf ahd bookE text isS none0 nth)
open Op (bytesLess)

theorem seen_at : ∀ (l : List Leaf) (o : Nat), o < (text l).length → ∃ A x B, l = A ++ x :: B ∧ isS x = true ∧ (text A).length = o
  | [], o, h => by simp [text] at h
  | x :: l, o, h => by
    rw [Bm.text_cons] at h
    cases hs : isS x
    · rw [hs] at h
      obtain ⟨A, y, B, h1, h2, h3⟩ := seen_at l o (by simpa using h)
      exact ⟨x :: A, y, B, by rw [h1]; rfl, h2, by rw [Bm.text_cons, hs]; simpa using h3⟩
    · rw [hs] at h
      rcases Nat.eq_zero_or_pos o with h0 | h0
      · exact ⟨[], x, l, rfl, hs, by rw [h0]; rfl⟩
      · obtain ⟨A, y, B, h1, h2, h3⟩ := seen_at l (o - 1) (by simp at h; omega)
        exact ⟨x :: A, y, B, by rw [h1]; rfl, h2, by rw [Bm.text_cons, hs]; simp [h3]; omega⟩
theorem nth_seen {l : List Leaf} {o : Nat} (h : o < (text l).length) : ∃ n, n < l.length ∧ isS (l.getD n none0) = true ∧ (text (l.take n)).length = o ∧ nth l 0 (o : Int) = (n : Int) := by
  obtain ⟨A, x, B, rfl, h2, h3⟩ := seen_at l o h
  refine ⟨A.length, by simp, ?_, ?_, ?_⟩
  · rw [List.getD_eq_getElem?_getD, List.getElem?_append_right (Nat.le_refl _)]; simpa using h2
  · rw [List.take_left' rfl]; exact h3
  · rw [← h3, Bm.nth_at h2 A 0, Nat.zero_add]

theorem app_list (a b : ByteArray) : (a ++ b).toList = a.toList ++ b.toList := by
  simp [ByteArray.toList_eq]
def l1 : List Leaf := [(⟨#[102, 98]⟩, 104, false), (⟨#[110, 98]⟩, 105, false)]
def m1 : List Mk := [(⟨#[110, 98]⟩, 1, 1)]
theorem fact1 : sliE l1 m1 1 = 0 ∧ sliR l1 m1 1 = ⟨#[105]⟩ := by decide +kernel

theorem chk_leaf {l : List Leaf} (h : bookE l = 0) {n : Nat} (hn : n < l.length) : Pm.chk (l.getD n none0).1.toList = 0 := by
  refine (Bm.leafE_zero.1 ((Bm.bookE_zero.1 h).2.1 _ ?_)).1
  rw [List.getD_eq_getElem?_getD, List.getElem?_eq_getElem hn]; exact List.getElem_mem hn
theorem two_leafs (w : World) (O : Obj) : LeafsIn ((w.alloc (.cells #[.string ⟨#[102, 98]⟩, .int .i64 104, .bool false, .string ⟨#[110, 98]⟩, .int .i64 105, .bool false] 25)).alloc O) (some ⟨w.heap.size, 0, none⟩) l1 := by
  have h1 := heap_alloc_new w (.cells #[.string ⟨#[102, 98]⟩, .int .i64 104, .bool false, .string ⟨#[110, 98]⟩, .int .i64 105, .bool false] 25)
  have hb : Below (w.alloc (.cells #[.string ⟨#[102, 98]⟩, .int .i64 104, .bool false, .string ⟨#[110, 98]⟩, .int .i64 105, .bool false] 25)).heap.size (w.alloc (.cells #[.string ⟨#[102, 98]⟩, .int .i64 104, .bool false, .string ⟨#[110, 98]⟩, .int .i64 105, .bool false] 25)) ((w.alloc (.cells #[.string ⟨#[102, 98]⟩, .int .i64 104, .bool false, .string ⟨#[110, 98]⟩, .int .i64 105, .bool false] 25)).alloc O) := (Below.refl _ _).alloc (Nat.le_refl _) _
  refine LeafsIn.below (Or.inr ⟨w.heap.size, 0, rfl, fun j hj => ?_⟩) hb
  match j, hj with
  | 0, _ => exact ⟨cell_of h1 rfl, cell_of h1 rfl, cell_of h1 rfl⟩
  | 1, _ => exact ⟨cell_of h1 rfl, cell_of h1 rfl, cell_of h1 rfl⟩
theorem one_mark (w : World) : MksAt (w.alloc (.cells #[.string ⟨#[110, 98]⟩, .int .i64 1, .int .i64 1] 29)) (.slice (some ⟨w.heap.size, 0, none⟩) 1 1) m1 := by
  have h1 := heap_alloc_new w (.cells #[.string ⟨#[110, 98]⟩, .int .i64 1, .int .i64 1] 29)
  refine ⟨_, _, rfl, Or.inr ⟨w.heap.size, 0, rfl, fun j hj => ?_⟩, Nat.le_refl _, by unfold maxLen; omega, fun e => by cases e⟩
  match j, hj with
  | 0, _ => exact ⟨cell_of h1 rfl, cell_of h1 rfl, cell_of h1 rfl⟩

set_option maxRecDepth 100000 in
set_option maxHeartbeats 8000000 in
theorem walk (q : Option Addr) (n c : Nat) (l : List Leaf) (u : Value) (m : List Mk) (f : Int) (w : World) (hl : l.length = n) (h : LeafsIn w q l) (hs : ∀ x ∈ l, x.1.size ≤ maxLen) (hn : n ≤ c) (hcm : c ≤ maxLen) (hA : MksAt w u m) (hsm : ∀ x ∈ m, x.1.size ≤ maxLen) :
    Calls Try.prog 3 #[.slice q n c, u, .int .i64 f] w fun e w' => e = .returned (.bool true) ∧ Below w.heap.size w w' := by
  obtain ⟨pu, nu, cu, hu⟩ := Mks_shape hA
  have HST : Hid (∀ W, Below w.heap.size w W → Calls Try.prog 5 #[.slice q n c, u] W fun e w' => ∃ v, e = .returned (.tuple #[v, errV (dirE l m)]) ∧ DirAt W w' l m v) := fun W hb => stretches_dir q n c l u m W hl (h.below hb) hs hn hcm (hA.below hb) hsm
  have HSL : Hid (∀ W (i : Int), Below w.heap.size w W → Calls Try.prog 4 #[.slice q n c, u, .int .i64 i] W fun e w' => e = .returned (.tuple #[.string (sliR l m i), errV (sliE l m i)]) ∧ Below W.heap.size W w') := fun W i hb => slice_any q n c l u m i W hl (h.below hb) hs hn hcm (hA.below hb) hsm
  have HLO : Hid (∀ W, Below w.heap.size w W → Calls Try.prog 7 #[.slice q n c, u, .int .i64 f] W fun e w' => e = .returned (.tuple #[.int .i64 (locI l m f : Int), .int .i64 (locJ l m f), errV (locE l m f)]) ∧ Below W.heap.size W w') := fun W hb => locate_any q n c l u m f W hl (h.below hb) hs hn hcm (hA.below hb) hsm
  have HOF : Hid (∀ W p, p.size ≤ maxLen → Below w.heap.size w W → Calls Try.prog 9 #[.slice q n c, u, .string p] W fun e w' => e = .returned (.tuple #[.int .i64 (ofR l m p : Int), errV (ofE l m p)]) ∧ Below W.heap.size W w') := fun W p hp hb => of_any q n c l u m p W hl (h.below hb) hs hn hcm (hA.below hb) hsm hp
  have HTX : Hid (∀ W, Below w.heap.size w W → Calls Try.prog 6 #[.slice q n c] W fun e w' => e = .returned (.tuple #[.string (Lf.textR l), errV (bookE l)]) ∧ Below W.heap.size W w') := fun W hb => Lf.text_any q n c l W hl (h.below hb) hs (Nat.le_trans hn hcm)
  have HAT : Hid (∀ W, Below w.heap.size w W → Calls Try.prog 8 #[.slice q n c, .int .i64 f] W fun e w' => e = .returned (.tuple #[.int .i64 (Lf.atR l f), errV (Lf.atE l f)]) ∧ Below W.heap.size W w') := fun W hb => Lg.at_any q n c l f W hl (h.below hb) hs (Nat.le_trans hn hcm)
  have HLF : Hid (LeafsIn w q l) := h
  have HLN : Hid (l.length = n) := hl
  rw [hu] at HST HSL HLO HOF ⊢
  obtain ⟨O1, hO1⟩ : ∃ O, O = Obj.cells #[.string ⟨#[102, 98]⟩, .int .i64 104, .bool false, .string ⟨#[110, 98]⟩, .int .i64 105, .bool false] 25 := ⟨_, rfl⟩
  obtain ⟨O2, hO2⟩ : ∃ O, O = Obj.cells #[.string ⟨#[110, 98]⟩, .int .i64 1, .int .i64 1] 29 := ⟨_, rfl⟩
  have hb2 : Below w.heap.size w ((w.alloc O1).alloc O2) := ((Below.refl _ w).alloc (Nat.le_refl _) O1).alloc (by simp) O2
  have C1 := slice_any (some ⟨w.heap.size, 0, none⟩) 2 2 l1 (.slice (some ⟨(w.alloc O1).heap.size, 0, none⟩) 1 1) m1 1 ((w.alloc O1).alloc O2) rfl (by rw [hO1]; exact two_leafs w O2) (by intro x hx; unfold l1 at hx; simp only [List.mem_cons, List.not_mem_nil, or_false] at hx; rcases hx with rfl | rfl <;> (unfold maxLen; decide)) (Nat.le_refl _) (by unfold maxLen; omega) (by rw [hO2]; exact one_mark _) (by intro x hx; unfold m1 at hx; simp only [List.mem_cons, List.not_mem_nil, or_false] at hx; subst hx; unfold maxLen; decide)
  rw [fact1.1, fact1.2, errV_zero] at C1
  have HB2 : Hid (Below w.heap.size w ((w.alloc O1).alloc O2)) := hb2
  have h105 : ((⟨#[105]⟩ : ByteArray).toList == (⟨#[105]⟩ : ByteArray).toList) = true := by simp
  have hz2 : (w.alloc O1).heap.size = w.heap.size + 1 := by simp
  rw [hz2] at C1
  rw [hO1, hO2] at C1 HB2
  clear hl h hs hn hcm hA hsm hu hb2 hO1 hO2 hz2
  by_cases h0 : dirE l m = 0
  · have hbm := dirE_zero.1 h0
    have HRI : Hid (Bm.Rise l ∧ marksE m = 0) := ⟨(Lf.book_ok hbm.1).2.1, hbm.2⟩
    have HBK : Hid (bookE l = 0) := hbm.1
    have HBG : Hid (∀ k, beg l (heads m) k ≤ (text l).length) := beg_le l _
    have HTL : Hid ((text l).length ≤ 300) := by have h9 := Bm.text_len_le l; have := (Bm.bookE_zero.1 hbm.1).1; unfold Hid; omega
    have HH4 : Hid ((heads m).length ≤ 41) := heads_len hbm.2
    have H0 : Hid (dirE l m = 0) := h0
    have HSI : Hid (∀ W (k : Nat), k < (heads m).length → Below w.heap.size w W → Calls Try.prog 4 #[.slice q n c, .slice pu nu cu, .int .i64 (k : Int)] W fun e w' => e = .returned (.tuple #[.string ⟨(sliceB l (heads m) k).toArray⟩, .nilIface]) ∧ Below W.heap.size W w') := fun W k hk hb => by
      have h9 := HSL.out W (k : Int) hb
      rw [(sliE_in H0.out hk).1, (sliE_in H0.out hk).2, errV_zero] at h9
      exact h9
    have HTE : Hid (Lf.textR l = ⟨(text l).toArray⟩) := by unfold Hid Lf.textR; rw [if_pos hbm.1]
    rw [HTE.out, hbm.1, errV_zero] at HTX
    rw [h0, errV_zero] at HST
    clear h0 hbm HSL HTE
    go_enter Try.func3, Try.ntmps3
    go_wp2_with fail
    refine C1.mono ?_
    rintro e w3 ⟨rfl, hb3⟩
    have HB3 : Hid (Below w.heap.size w w3) := bel HB2.out hb3
    have C2 := HST.out w3 HB3.out
    clear hb3 C1
    go_wp2_with fail
    refine C2.mono ?_
    rintro e w4 ⟨v4, rfl, hd4⟩
    obtain ⟨hm4, hb4, hg4, _⟩ := hd4
    obtain ⟨g, cd, rfl, hgl⟩ := hg4 H0.out
    rw [stD_ok H0.out] at hm4
    have HM4 : Hid (∀ k, k < (heads m).length → MAt w4 g 0 k (stOf l (heads m) k)) := mks_at hm4
    have HB4 : Hid (Below w.heap.size w w4) := bel HB3.out hb4
    obtain ⟨nh, hnh⟩ : ∃ nh, nh = (heads m).length := ⟨_, rfl⟩
    rw [← hnh] at HM4 HH4 HSI ⊢
    have HNH : Hid (nh = (heads m).length) := hnh
    have hn41 : nh ≤ 41 := HH4.out
    clear hm4 hb4 hg4 hgl C2 hnh HST HB3 HB2
    go_wp2_with fail
    go_loopw [13, 14] (fun va vi wr => ∃ (k : Nat) (A : ByteArray), k ≤ nh ∧ vi = .int .i64 k ∧ va = .string A ∧ Hid (A = ⟨((text l).take (beg l (heads m) k)).toArray⟩) ∧ Hid (Below w4.heap.size w4 wr)) (fun _ vi _ => nh - (intOf vi).toNat)
    case atStart => exact ⟨0, ⟨#[]⟩, by omega, rfl, rfl, by unfold Hid; rw [beg_zero]; rfl, Below.refl _ _⟩
    case round =>
      obtain ⟨k, A, hk, rfl, rfl, HA, HB⟩ := hrel
      by_cases hlt : k < nh
      · have hltz : (k : Int) < nh := by omega
        have hkh : k < (heads m).length := by rw [← HNH.out]; exact hlt
        have C3 := HSI.out wr k hlt (bel HB4.out HB.out)
        obtain ⟨b0, hb0⟩ : ∃ b0, b0 = beg l (heads m) k := ⟨_, rfl⟩
        obtain ⟨b1, hb1⟩ : ∃ b1, b1 = beg l (heads m) (k + 1) := ⟨_, rfl⟩
        obtain ⟨S, hS⟩ : ∃ S : ByteArray, S = ⟨(sliceB l (heads m) k).toArray⟩ := ⟨_, rfl⟩
        have h3a : b0 ≤ b1 := by rw [hb0, hb1]; exact beg_mono HRI.out.1 HRI.out.2 (Nat.le_succ k)
        have h3b : b1 ≤ 300 := by rw [hb1]; exact Nat.le_trans (HBG.out _) HTL.out
        have hAs : A.size = b0 := by
          rw [HA.out]
          show ((text l).take (beg l (heads m) k)).length = b0
          rw [List.length_take, hb0]; exact Nat.min_eq_left (HBG.out k)
        have hSn : S.size = b1 - b0 := by
          rw [hS, hb0, hb1]; exact slice_len HRI.out.1 HRI.out.2 k
        have hSs : (S.size : Int) = (b1 : Int) - b0 := by omega
        have hS3 : S.size ≤ 300 := by omega
        clear hSn
        obtain ⟨d, hd⟩ : ∃ d : Int, d = (b1 : Int) - b0 := ⟨_, rfl⟩
        have HNX : Hid (A ++ S = ⟨((text l).take (beg l (heads m) (k + 1))).toArray⟩) := by
          unfold Hid
          apply Bm.bytes_inj
          rw [app_list, HA.out, hS, mk_list, mk_list, mk_list]
          exact slice_next HRI.out.1 HRI.out.2 k
        rw [← hd] at hSs
        rw [← hS] at C3
        by_cases hk0 : k = 0
        · subst hk0
          have HCE : Hid (∀ W, Below w4.heap.size w4 W → MAt W g 0 0 (stOf l (heads m) 0)) := fun W hW => (HM4.out 0 hlt).below hW (HM4.out 0 hlt).lt
          clear hkh hS
          go_wp2_with fail
          refine C3.mono ?_
          rintro e w5 ⟨rfl, hb5⟩
          have HB5 : Hid (Below w4.heap.size w4 w5) := bel HB.out hb5
          obtain ⟨a1, a2, a3⟩ := HCE.out w5 HB5.out
          simp only [stOf, Nat.zero_add] at a1 a2 a3
          rw [← hb1, ← hb0, ← hd] at a3
          rw [← hb0] at a2
          clear hb5 C3 hb0 hb1 hd
          go_wp2_with fail
          go_quiet (fail)
          generalize hwq : World.drewN _ _ = wq
          have HBq : Hid (Below w4.heap.size w4 wq) := by rw [← hwq]; exact bel_drew HB5.out _
          clear hwq
          go_wp2_with fail
          go_roundw
          case rel => exact ⟨0 + 1, A ++ S, by omega, by go_num, rfl, HNX, HBq⟩
          case measure => simp [intOf]; omega
        · obtain ⟨j, hj⟩ : ∃ j, j + 1 = k := ⟨k - 1, by omega⟩
          have hjl : j < nh := by omega
          have HCE : Hid (∀ W, Below w4.heap.size w4 W → MAt W g 0 k (stOf l (heads m) k) ∧ MAt W g 0 j (stOf l (heads m) j)) := fun W hW => ⟨(HM4.out k hlt).below hW (HM4.out k hlt).lt, (HM4.out j hjl).below hW (HM4.out j hjl).lt⟩
          obtain ⟨sp, hsp⟩ : ∃ sp, sp = (heads m).getD k ByteArray.empty := ⟨_, rfl⟩
          obtain ⟨sq, hsq⟩ : ∃ sq, sq = (heads m).getD j ByteArray.empty := ⟨_, rfl⟩
          have hls : bytesLess sq.toList sp.toList = true := by rw [hsp, hsq]; exact heads_lt HRI.out.2 (by omega) hkh
          have hl2 : bytesLess sp.toList sq.toList = false := Bm.less_asymm hls
          have heq : (sq.toList == sp.toList) = false := by
            simp only [beq_eq_false_iff_ne, ne_eq]; intro h9; rw [h9, Bm.less_irrefl] at hls; cases hls
          have hkp : 0 < k := by omega
          have hjz : (j : Int) < nh := by omega
          have hkm : IntKind.i64.wrap ((k : Int) - 1) = (j : Int) := by rw [show (k : Int) - 1 = (j : Int) by omega]; exact wrap_in3 (by omega) (by omega)
          clear hkh hS hk0 hj hjl
          go_wp2_with fail
          refine C3.mono ?_
          rintro e w5 ⟨rfl, hb5⟩
          have HB5 : Hid (Below w4.heap.size w4 w5) := bel HB.out hb5
          obtain ⟨⟨a1, a2, a3⟩, ⟨c1, c2, c3⟩⟩ := HCE.out w5 HB5.out
          simp only [stOf, Nat.zero_add] at a1 a2 a3 c1
          rw [← hb1, ← hb0, ← hd] at a3
          rw [← hb0] at a2
          rw [← hsp] at a1
          rw [← hsq] at c1
          clear hb5 C3 hb0 hb1 hd hsp hsq c2 c3
          go_wp2_with fail
          go_quiet (fail)
          generalize hwq : World.drewN _ _ = wq
          have HBq : Hid (Below w4.heap.size w4 wq) := by rw [← hwq]; exact bel_drew HB5.out _
          clear hwq
          go_wp2_with fail
          go_roundw
          case rel => exact ⟨k + 1, A ++ S, by omega, by go_num, rfl, HNX, HBq⟩
          case measure => simp [intOf]; omega
      · obtain rfl : k = nh := by omega
        have hltz : ¬ (k : Int) < k := by omega
        obtain ⟨T, hT⟩ : ∃ T : ByteArray, T = ⟨(text l).toArray⟩ := ⟨_, rfl⟩
        have hAT : A = T := by rw [HA.out, hT, HNH.out, slice_all l m (Nat.le_refl _)]
        have HTS : Hid (T.size = (text l).length) := by rw [hT]; rfl
        have C4 := HTX.out wr (bel HB4.out HB.out)
        rw [← hT] at C4
        clear HA HTX HSI hT
        subst hAT
        have hAA : (A.toList == A.toList) = true := by simp
        go_wp2_with fail
        refine C4.mono ?_
        rintro e w5 ⟨rfl, hb5⟩
        have HB5 : Hid (Below w4.heap.size w4 w5) := bel HB.out hb5
        have C5 := HLO.out w5 (bel HB4.out HB5.out)
        clear hb5 C4 HLO
        cases hlo : locO l m f with
        | none =>
          have h9 := locE_none H0.out hlo
          have h8 := loc_out hlo
          rw [h9.1, h9.2.1, h9.2.2, show errV 1 = .iface 49 (.int .i64 1) from rfl] at C5
          rw [← HTS.out] at h8
          clear h9 hlo
          go_wp2_with fail
          refine C5.mono ?_
          rintro e w6 ⟨rfl, hb6⟩
          have HB6 : Hid (Below w4.heap.size w4 w6) := bel HB5.out hb6
          clear hb6 C5
          by_cases hf0 : f < 0
          · clear h8
            go_wp2_with fail
            go_ret
            exact ⟨rfl, bel HB4.out HB6.out⟩
          · have hf1 : (A.size : Int) ≤ f := by omega
            clear h8
            go_wp2_with fail
            go_ret
            exact ⟨rfl, bel HB4.out HB6.out⟩
        | some j =>
          have h9 := locE_some H0.out hlo
          obtain ⟨j1, j2, j3⟩ := loc_in hlo
          rw [h9.1, h9.2.1, h9.2.2, errV_zero] at C5
          obtain ⟨o, rfl⟩ : ∃ o : Nat, f = (o : Int) := ⟨f.toNat, by omega⟩
          have hol : o < (text l).length := (loc_lt (l := l) (m := m) (o := o) (k := j) (by omega) (by omega)).2
          obtain ⟨x, hxl, hxs, hxt, hxn⟩ := nth_seen hol
          have hAE : Lf.atE l (o : Int) = 0 := by
            unfold Lf.atE; rw [if_neg (by simp [HBK.out]), if_neg (by omega), hxn, if_neg (by omega)]
          have hAR : Lf.atR l (o : Int) = (x : Int) := by unfold Lf.atR; rw [if_pos hAE, hxn]
          rw [hAE, hAR, errV_zero] at HAT
          obtain ⟨b, oo, rfl, hc⟩ := HLF.out.some (by intro e; rw [e] at hxl; simp at hxl)
          have HCX : Hid (∀ W, Below w.heap.size w W → W.cell? ⟨b, oo + x * 3, none⟩ = some (.string (l.getD x none0).1)) := fun W hW => ((hc x hxl).below hW (hc x hxl).lt).1
          obtain ⟨p, hp⟩ : ∃ p, p = (l.getD x none0).1 := ⟨_, rfl⟩
          have hck : Pm.chk p.toList = 0 := by rw [hp]; exact chk_leaf HBK.out hxl
          have hIO : IsOf (heads m) p j := by rw [hp]; exact of_leaf HRI.out.1 HRI.out.2 hxl hxs (by omega) (by omega)
          have hR : ofE l m p = 0 ∧ ofR l m p = j := by
            have h8 := ofE_ok H0.out hck
            exact ⟨h8.1, h8.2.trans (of_uniq (ofTo_is m p) hIO)⟩
          have HO2 : Hid (∀ W, Below w.heap.size w W → Calls Try.prog 9 #[.slice (some ⟨b, oo, none⟩) n c, .slice pu nu cu, .string p] W fun e w' => e = .returned (.tuple #[.int .i64 (j : Int), .nilIface]) ∧ Below W.heap.size W w') := fun W hW => by
            have h8 := HOF.out W p (chk_len hck) hW
            rw [hR.1, hR.2, errV_zero] at h8
            exact h8
          rw [← hp] at HCX
          have hjl : j < k := by rw [HNH.out]; exact j1
          have HCJ : Hid (∀ W, Below w4.heap.size w4 W → MAt W g 0 j (stOf l (heads m) j)) := fun W hW => (HM4.out j hjl).below hW (HM4.out j hjl).lt
          obtain ⟨b0, hb0⟩ : ∃ b0, b0 = beg l (heads m) j := ⟨_, rfl⟩
          have hb3 : b0 ≤ 300 := by rw [hb0]; exact Nat.le_trans (HBG.out _) HTL.out
          have ho3 : o ≤ 300 := by have := HTL.out; omega
          have hb0o : b0 ≤ o := by rw [hb0]; omega
          rw [← hb0] at C5
          have hxz : (x : Int) < n := by rw [← HLN.out]; omega
          have hjz : (j : Int) < k := by omega
          have hw9 : IntKind.i64.wrap ((b0 : Int) + ((o : Int) - b0)) = (o : Int) := by rw [show (b0 : Int) + ((o : Int) - b0) = o by omega]; exact wrap_in3 (by omega) (by omega)
          obtain ⟨d, hd⟩ : ∃ d : Int, d = (o : Int) - b0 := ⟨_, rfl⟩
          rw [← hd] at C5 hw9
          have HB0 : Hid (b0 = beg l (heads m) j) := hb0
          have hnx : n ≤ 300 := by rw [← HLN.out]; exact (Bm.bookE_zero.1 HBK.out).1
          clear h9 hlo j1 j2 j3 hol hxl hxs hxt hxn hAE hAR hc hp hck hIO hR hb0 hd HOF
          go_wp2_with fail
          refine C5.mono ?_
          rintro e w6 ⟨rfl, hb6⟩
          have HB6 : Hid (Below w4.heap.size w4 w6) := bel HB5.out hb6
          have C6 := HAT.out w6 (bel HB4.out HB6.out)
          clear hb6 C5 HAT
          go_wp2_with fail
          refine C6.mono ?_
          rintro e w7 ⟨rfl, hb7⟩
          have HB7 : Hid (Below w4.heap.size w4 w7) := bel HB6.out hb7
          have a0 := HCX.out w7 (bel HB4.out HB7.out)
          have C7 := HO2.out w7 (bel HB4.out HB7.out)
          clear hb7 C6 HO2
          go_wp2_with fail
          refine C7.mono ?_
          rintro e w8 ⟨rfl, hb8⟩
          have HB8 : Hid (Below w4.heap.size w4 w8) := bel HB7.out hb8
          obtain ⟨a1, a2, a3⟩ := HCJ.out w8 HB8.out
          simp only [stOf, Nat.zero_add] at a1 a2 a3
          rw [← HB0.out] at a2
          clear hb8 C7 a0 a1 a3
          go_wp2_with fail
          go_ret
          exact ⟨rfl, bel HB4.out HB8.out⟩
  · rw [errV_ne h0] at HST
    obtain ⟨z, hz⟩ : ∃ z, z = dirE l m := ⟨_, rfl⟩
    rw [← hz] at HST
    clear h0 hz
    go_enter Try.func3, Try.ntmps3
    go_wp2_with fail
    refine C1.mono ?_
    rintro e w3 ⟨rfl, hb3⟩
    have HB3 : Hid (Below w.heap.size w w3) := bel HB2.out hb3
    have C2 := HST.out w3 HB3.out
    clear hb3 C1
    go_wp2_with fail
    refine C2.mono ?_
    rintro e w4 ⟨v4, rfl, hd4⟩
    have HB4 : Hid (Below w.heap.size w w4) := bel HB3.out hd4.2.1
    clear hd4 C2
    go_wp2_with fail
    go_ret
    exact ⟨rfl, HB4.out⟩

end Sg
end Go.Proofs.Ytllcmfbkingfdaa
