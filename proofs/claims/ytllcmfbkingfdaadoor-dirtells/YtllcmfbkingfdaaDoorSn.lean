/- DirTells: the law's walk. -/
import Derived.Test.YtllcmfbkingfdaaDoorSf
import Derived.Test.YtllcmfbkingfdaaDoorSk
import Derived.Test.YtllcmfbkingfdaaDoorSa
import Derived.Test.YtllcmfbkingfdaaDoorK1
import Derived.Test.YtllcmfbkingfdaaDoorK2
import Derived.Test.YtllcmfbkingfdaaDoorJ14
import Derived.Deep.RegionHeld3
namespace Go.Proofs.YtllcmfbkingfdaaDoor
namespace Sn
set_option linter.unusedVariables false
open Go.ChangeShapes Go.WideShapes Go.ChangeAt Go.RowKit Cm Ka Kb Na Sm Sb Sd Se Sf
open La (bel bel_drew errV_zero errV_ne own_ge own_grow own_below LeafsIn Lies)
open Bm (Leaf ahd bookE text isS none0 nth)
open Op (bytesLess)
open Kt (ET)

theorem same_self (n : Int) (w : World) (hg : ET w) : Calls Tryd.prog 14 #[errV n, .int .i64 n] w fun e w' => e = .returned (.bool true) ∧ Below w.heap.size w w' := by
  refine (Kl.same_any n n w hg).mono ?_
  rintro e w' ⟨rfl, hb⟩
  exact ⟨by simp, hb⟩
theorem keep_cellN {w w' : World} {a : Addr} {v : Value} (hb : Below w.heap.size w w') (h : w.cell? a = some v) : w'.cell? a = some v := (hb.cell (World.block_lt_of_cell? _ _ h)).trans h

/- what the law knows of an offset when it has gone through k stretches -/
def LR (l : List Leaf) (m : List Mk) (o : Int) (k : Nat) (f a i : Int) : Prop := (∃ j, j < k ∧ locO l m o = some j ∧ f = 0 ∧ a = (j : Int) ∧ i = o - beg l (heads m) j) ∨ (f = 1 ∧ a = 0 ∧ i = 0 ∧ ∀ j, j < k → ¬ ((beg l (heads m) j : Int) ≤ o ∧ o < beg l (heads m) (j + 1)))
theorem LR.zero (l : List Leaf) (m : List Mk) (o : Int) : LR l m o 0 1 0 0 := Or.inr ⟨rfl, rfl, rfl, fun j hj => by omega⟩
theorem LR.no {l : List Leaf} {m : List Mk} {o : Int} {k : Nat} {f a i : Int} (h : LR l m o k f a i) (hn : ¬ ((beg l (heads m) k : Int) ≤ o ∧ o < beg l (heads m) (k + 1))) : LR l m o (k + 1) f a i := by
  rcases h with ⟨j, h1, h2⟩ | ⟨h1, h2, h3, h4⟩
  · exact Or.inl ⟨j, by omega, h2⟩
  · refine Or.inr ⟨h1, h2, h3, fun j hj => ?_⟩
    rcases Nat.lt_succ_iff_lt_or_eq.1 hj with h9 | rfl
    · exact h4 j h9
    · exact hn
theorem LR.yes {l : List Leaf} {m : List Mk} (hr : Bm.Rise l) (hm : marksE m = 0) {o : Int} {k : Nat} (hk : k < (heads m).length) (h1 : (beg l (heads m) k : Int) ≤ o) (h2 : o < beg l (heads m) (k + 1)) : LR l m o (k + 1) 0 (k : Int) (o - beg l (heads m) k) :=
  Or.inl ⟨k, by omega, loc_is hr hm hk h1 h2, rfl, rfl, rfl⟩
theorem LR.done {l : List Leaf} {m : List Mk} {o : Int} (h0 : dirE l m = 0) {f a i : Int} (h : LR l m o (heads m).length f a i) : f = locE l m o ∧ a = (locI l m o : Int) ∧ i = locJ l m o := by
  rcases h with ⟨j, h1, h2, h3, h4, h5⟩ | ⟨h1, h2, h3, h4⟩
  · have h9 := locE_some h0 h2
    rw [h9.1, h9.2.1, h9.2.2]
    exact ⟨h3, h4, h5⟩
  · have h9 := locE_none h0 (loc_not h4)
    rw [h9.1, h9.2.1, h9.2.2]
    exact ⟨h1, h2, h3⟩

set_option maxRecDepth 100000 in
set_option maxHeartbeats 8000000 in
theorem walk_book (q : Option Addr) (n c : Nat) (l : List Leaf) (u : Value) (m : List Mk) (f i : Int) (p : ByteArray) (w : World) (hl : l.length = n) (h : LeafsIn w q l) (hs : ∀ x ∈ l, x.1.size ≤ maxLen) (hn : n ≤ c) (hcm : c ≤ maxLen) (hA : MksAt w u m) (hsm : ∀ x ∈ m, x.1.size ≤ maxLen) (hp : p.size ≤ maxLen) (hg : ET w) (h0 : ¬ bookE l = 0) :
    Calls Tryd.prog 4 #[.slice q n c, u, .int .i64 f, .int .i64 i, .string p] w fun e w' => e = .returned (.bool true) ∧ Below w.heap.size w w' := by
  obtain ⟨pu, nu, cu, hu⟩ := Mks_shape hA
  have HBR : Hid (∀ W, Below w.heap.size w W → Calls Tryd.prog 10 #[.slice q n c] W fun e w' => e = .returned (.int .i64 (bookE l)) ∧ Below W.heap.size W w') := fun W hb => Ma.book_ref q n c l W hl (h.below hb) hs (Nat.le_trans hn hcm)
  have HMR : Hid (∀ W, Below w.heap.size w W → Calls Tryd.prog 11 #[u] W fun e w' => e = .returned (.int .i64 (marksE m)) ∧ Below W.heap.size W w') := fun W hb => Wb.marks_ref u m W (hA.below hb) hsm
  have HST : Hid (∀ W, Below w.heap.size w W → Calls Tryd.prog 13 #[.slice q n c, u] W fun e w' => ∃ v, e = .returned (.tuple #[v, errV (dirE l m)]) ∧ DirAt W w' l m v) := fun W hb => stretches_dir q n c l u m W hl (h.below hb) hs hn hcm (hA.below hb) hsm
  have HSL : Hid (∀ W, Below w.heap.size w W → Calls Tryd.prog 18 #[.slice q n c, u, .int .i64 i] W fun e w' => e = .returned (.tuple #[.string (sliR l m i), errV (sliE l m i)]) ∧ Below W.heap.size W w') := fun W hb => slice_any q n c l u m i W hl (h.below hb) hs hn hcm (hA.below hb) hsm
  have HLO : Hid (∀ W, Below w.heap.size w W → Calls Tryd.prog 16 #[.slice q n c, u, .int .i64 f] W fun e w' => e = .returned (.tuple #[.int .i64 (locI l m f : Int), .int .i64 (locJ l m f), errV (locE l m f)]) ∧ Below W.heap.size W w') := fun W hb => locate_any q n c l u m f W hl (h.below hb) hs hn hcm (hA.below hb) hsm
  have HOF : Hid (∀ W, Below w.heap.size w W → Calls Tryd.prog 20 #[.slice q n c, u, .string p] W fun e w' => e = .returned (.tuple #[.int .i64 (ofR l m p : Int), errV (ofE l m p)]) ∧ Below W.heap.size W w') := fun W hb => of_any q n c l u m p W hl (h.below hb) hs hn hcm (hA.below hb) hsm hp
  have HER : Hid (∀ W z, Below w.heap.size w W → Calls Tryd.prog 14 #[errV z, .int .i64 z] W fun e w' => e = .returned (.bool true) ∧ Below W.heap.size W w') := fun W z hb => same_self z W (Kl.ET.below hg hb)
  have hd : dirE l m = bookE l := by unfold dirE; rw [if_pos h0]
  have hd0 : ¬ dirE l m = 0 := by rw [hd]; exact h0
  rw [← hd] at HBR
  rw [(locE_ne (o := f) hd0).1, (locE_ne (o := f) hd0).2.1, (locE_ne (o := f) hd0).2.2] at HLO
  rw [(sliE_ne (i := i) hd0).1, (sliE_ne (i := i) hd0).2] at HSL
  rw [(ofE_ne (p := p) hd0).1, (ofE_ne (p := p) hd0).2] at HOF
  have HS2 : Hid (∀ W v, DirAt W W l m v → True) := fun _ _ _ => trivial
  have HSS : Hid (∀ W, Below w.heap.size w W → Calls Tryd.prog 15 #[.slice none 0 0, .slice none 0 0] W fun e w' => e = .returned (.bool true) ∧ Below W.heap.size W w') := fun W hb => by
    have h9 := Sa.stretches_any (.slice none 0 0) (.slice none 0 0) [] [] W (MksAt.nil W) (MksAt.nil W) (by simp)
    exact h9
  have HST2 : Hid (∀ W, Below w.heap.size w W → Calls Tryd.prog 13 #[.slice q n c, u] W fun e w' => e = .returned (.tuple #[.slice none 0 0, errV (dirE l m)]) ∧ Below W.heap.size W w') := fun W hb => (HST.out W hb).mono (by
    rintro e w' ⟨v, rfl, hD⟩
    rw [hD.2.2.2 hd0]
    exact ⟨rfl, hD.2.1⟩)
  obtain ⟨z, hz⟩ : ∃ z, z = dirE l m := ⟨_, rfl⟩
  rw [← hz] at HST2 HSL HLO HOF HBR hd0
  have HE2 := HER.out
  have HER2 : Hid (∀ W, Below w.heap.size w W → Calls Tryd.prog 14 #[errV z, .int .i64 z] W fun e w' => e = .returned (.bool true) ∧ Below W.heap.size W w') := fun W hb => HE2 W z hb
  obtain ⟨E, hE⟩ : ∃ E, E = errV z := ⟨_, rfl⟩
  rw [← hE] at HST2 HSL HLO HOF HER2
  have hz0 : (z == 0) = false := by simpa using hd0
  have hss : ((⟨#[]⟩ : ByteArray).toList == (⟨#[]⟩ : ByteArray).toList) = true := by simp
  have HK0 : Hid (Below w.heap.size w w) := Below.refl _ _
  rw [hu] at HST2 HSL HLO HOF HMR ⊢
  clear hl h hs hn hcm hA hsm hp hg hu hd hd0 hz hE HST HER HE2 HS2 h0
  go_enter Tryd.func4, Tryd.ntmps4
  go_wp2_with fail
  refine (HBR.out w HK0.out).mono ?_
  rintro e w1 ⟨rfl, hb1⟩
  have K1 : Hid (Below w.heap.size w w1) := bel (Below.refl _ _) hb1
  clear hb1
  go_wp2_with fail
  refine (HST2.out w1 K1.out).mono ?_
  rintro e w2 ⟨rfl, hb2⟩
  have K2 : Hid (Below w.heap.size w w2) := bel K1.out hb2
  clear hb2
  go_wp2_with fail
  refine (HER2.out w2 K2.out).mono ?_
  rintro e w3 ⟨rfl, hb3⟩
  have K3 : Hid (Below w.heap.size w w3) := bel K2.out hb3
  clear hb3
  go_wp2_with fail
  refine (HSS.out w3 K3.out).mono ?_
  rintro e w4 ⟨rfl, hb4⟩
  have K4 : Hid (Below w.heap.size w w4) := bel K3.out hb4
  clear hb4
  go_wp2_with fail
  go_loopw [17, 18, 19, 20] (fun v1 v2 v3 v4 wr => v1 = .int .i64 z ∧ v2 = .int .i64 0 ∧ v3 = .int .i64 0 ∧ v4 = .int .i64 0 ∧ wr = w4) (fun _ _ _ _ _ => 0)
  case atStart => exact ⟨rfl, rfl, rfl, rfl, rfl⟩
  obtain ⟨rfl, rfl, rfl, rfl, rfl⟩ := hrel
  go_wp2_with fail
  refine (HLO.out wr K4.out).mono ?_
  rintro e w5 ⟨rfl, hb5⟩
  have K5 : Hid (Below w.heap.size w w5) := bel K4.out hb5
  clear hb5
  go_wp2_with fail
  refine (HER2.out w5 K5.out).mono ?_
  rintro e w6 ⟨rfl, hb6⟩
  have K6 : Hid (Below w.heap.size w w6) := bel K5.out hb6
  clear hb6
  go_wp2_with fail
  refine (HSL.out w6 K6.out).mono ?_
  rintro e w7 ⟨rfl, hb7⟩
  have K7 : Hid (Below w.heap.size w w7) := bel K6.out hb7
  clear hb7
  go_wp2_with fail
  refine (HER2.out w7 K7.out).mono ?_
  rintro e w8 ⟨rfl, hb8⟩
  have K8 : Hid (Below w.heap.size w w8) := bel K7.out hb8
  clear hb8
  go_wp2_with fail
  go_loopw [27, 28] (fun v1 v2 wr => v1 = .int .i64 0 ∧ v2 = .int .i64 0 ∧ wr = w8) (fun _ _ _ => 0)
  case atStart => exact ⟨rfl, rfl, rfl⟩
  obtain ⟨rfl, rfl, rfl⟩ := hrel
  go_wp2_with fail
  refine (HOF.out wr K8.out).mono ?_
  rintro e w9 ⟨rfl, hb9⟩
  have K9 : Hid (Below w.heap.size w w9) := bel K8.out hb9
  clear hb9
  go_wp2_with fail
  refine (HER2.out w9 K9.out).mono ?_
  rintro e w10 ⟨rfl, hb10⟩
  have K10 : Hid (Below w.heap.size w w10) := bel K9.out hb10
  clear hb10
  go_wp2_with fail
  go_ret
  exact ⟨rfl, K10.out⟩

set_option maxRecDepth 100000 in
set_option maxHeartbeats 8000000 in
theorem walk_marks (q : Option Addr) (n c : Nat) (l : List Leaf) (u : Value) (m : List Mk) (f i : Int) (p : ByteArray) (w : World) (hl : l.length = n) (h : LeafsIn w q l) (hs : ∀ x ∈ l, x.1.size ≤ maxLen) (hn : n ≤ c) (hcm : c ≤ maxLen) (hA : MksAt w u m) (hsm : ∀ x ∈ m, x.1.size ≤ maxLen) (hp : p.size ≤ maxLen) (hg : ET w) (hb0 : bookE l = 0) (h0 : ¬ marksE m = 0) :
    Calls Tryd.prog 4 #[.slice q n c, u, .int .i64 f, .int .i64 i, .string p] w fun e w' => e = .returned (.bool true) ∧ Below w.heap.size w w' := by
  obtain ⟨pu, nu, cu, hu⟩ := Mks_shape hA
  have HBR : Hid (∀ W, Below w.heap.size w W → Calls Tryd.prog 10 #[.slice q n c] W fun e w' => e = .returned (.int .i64 (bookE l)) ∧ Below W.heap.size W w') := fun W hb => Ma.book_ref q n c l W hl (h.below hb) hs (Nat.le_trans hn hcm)
  have HMR : Hid (∀ W, Below w.heap.size w W → Calls Tryd.prog 11 #[u] W fun e w' => e = .returned (.int .i64 (marksE m)) ∧ Below W.heap.size W w') := fun W hb => Wb.marks_ref u m W (hA.below hb) hsm
  have HST : Hid (∀ W, Below w.heap.size w W → Calls Tryd.prog 13 #[.slice q n c, u] W fun e w' => ∃ v, e = .returned (.tuple #[v, errV (dirE l m)]) ∧ DirAt W w' l m v) := fun W hb => stretches_dir q n c l u m W hl (h.below hb) hs hn hcm (hA.below hb) hsm
  have HSL : Hid (∀ W, Below w.heap.size w W → Calls Tryd.prog 18 #[.slice q n c, u, .int .i64 i] W fun e w' => e = .returned (.tuple #[.string (sliR l m i), errV (sliE l m i)]) ∧ Below W.heap.size W w') := fun W hb => slice_any q n c l u m i W hl (h.below hb) hs hn hcm (hA.below hb) hsm
  have HLO : Hid (∀ W, Below w.heap.size w W → Calls Tryd.prog 16 #[.slice q n c, u, .int .i64 f] W fun e w' => e = .returned (.tuple #[.int .i64 (locI l m f : Int), .int .i64 (locJ l m f), errV (locE l m f)]) ∧ Below W.heap.size W w') := fun W hb => locate_any q n c l u m f W hl (h.below hb) hs hn hcm (hA.below hb) hsm
  have HOF : Hid (∀ W, Below w.heap.size w W → Calls Tryd.prog 20 #[.slice q n c, u, .string p] W fun e w' => e = .returned (.tuple #[.int .i64 (ofR l m p : Int), errV (ofE l m p)]) ∧ Below W.heap.size W w') := fun W hb => of_any q n c l u m p W hl (h.below hb) hs hn hcm (hA.below hb) hsm hp
  have HER : Hid (∀ W z, Below w.heap.size w W → Calls Tryd.prog 14 #[errV z, .int .i64 z] W fun e w' => e = .returned (.bool true) ∧ Below W.heap.size W w') := fun W z hb => same_self z W (Kl.ET.below hg hb)
  have hd : dirE l m = marksE m := by unfold dirE; rw [if_neg (by simp [hb0])]
  have hd0 : ¬ dirE l m = 0 := by rw [hd]; exact h0
  rw [hb0] at HBR
  rw [← hd] at HMR
  rw [(locE_ne (o := f) hd0).1, (locE_ne (o := f) hd0).2.1, (locE_ne (o := f) hd0).2.2] at HLO
  rw [(sliE_ne (i := i) hd0).1, (sliE_ne (i := i) hd0).2] at HSL
  rw [(ofE_ne (p := p) hd0).1, (ofE_ne (p := p) hd0).2] at HOF
  have HS2 : Hid (∀ W v, DirAt W W l m v → True) := fun _ _ _ => trivial
  have HSS : Hid (∀ W, Below w.heap.size w W → Calls Tryd.prog 15 #[.slice none 0 0, .slice none 0 0] W fun e w' => e = .returned (.bool true) ∧ Below W.heap.size W w') := fun W hb => by
    have h9 := Sa.stretches_any (.slice none 0 0) (.slice none 0 0) [] [] W (MksAt.nil W) (MksAt.nil W) (by simp)
    exact h9
  have HST2 : Hid (∀ W, Below w.heap.size w W → Calls Tryd.prog 13 #[.slice q n c, u] W fun e w' => e = .returned (.tuple #[.slice none 0 0, errV (dirE l m)]) ∧ Below W.heap.size W w') := fun W hb => (HST.out W hb).mono (by
    rintro e w' ⟨v, rfl, hD⟩
    rw [hD.2.2.2 hd0]
    exact ⟨rfl, hD.2.1⟩)
  obtain ⟨z, hz⟩ : ∃ z, z = dirE l m := ⟨_, rfl⟩
  rw [← hz] at HST2 HSL HLO HOF HMR hd0
  have HE2 := HER.out
  have HER2 : Hid (∀ W, Below w.heap.size w W → Calls Tryd.prog 14 #[errV z, .int .i64 z] W fun e w' => e = .returned (.bool true) ∧ Below W.heap.size W w') := fun W hb => HE2 W z hb
  obtain ⟨E, hE⟩ : ∃ E, E = errV z := ⟨_, rfl⟩
  rw [← hE] at HST2 HSL HLO HOF HER2
  have hz0 : (z == 0) = false := by simpa using hd0
  have hss : ((⟨#[]⟩ : ByteArray).toList == (⟨#[]⟩ : ByteArray).toList) = true := by simp
  have HK0 : Hid (Below w.heap.size w w) := Below.refl _ _
  rw [hu] at HST2 HSL HLO HOF HMR ⊢
  clear hl h hs hn hcm hA hsm hp hg hu hd hd0 hz hE HST HER HE2 HS2 h0 hb0
  go_enter Tryd.func4, Tryd.ntmps4
  go_wp2_with fail
  refine (HBR.out w HK0.out).mono ?_
  rintro e w1 ⟨rfl, hb1⟩
  have K1 : Hid (Below w.heap.size w w1) := bel (Below.refl _ _) hb1
  clear hb1
  go_wp2_with fail
  refine (HMR.out w1 K1.out).mono ?_
  rintro e w2 ⟨rfl, hb2⟩
  have K2 : Hid (Below w.heap.size w w2) := bel K1.out hb2
  clear hb2
  go_wp2_with fail
  refine (HST2.out w2 K2.out).mono ?_
  rintro e w3 ⟨rfl, hb3⟩
  have K3 : Hid (Below w.heap.size w w3) := bel K2.out hb3
  clear hb3
  go_wp2_with fail
  refine (HER2.out w3 K3.out).mono ?_
  rintro e w4 ⟨rfl, hb4⟩
  have K4 : Hid (Below w.heap.size w w4) := bel K3.out hb4
  clear hb4
  go_wp2_with fail
  refine (HSS.out w4 K4.out).mono ?_
  rintro e w5 ⟨rfl, hb5⟩
  have K5 : Hid (Below w.heap.size w w5) := bel K4.out hb5
  clear hb5
  go_wp2_with fail
  go_loopw [17, 18, 19, 20] (fun v1 v2 v3 v4 wr => v1 = .int .i64 z ∧ v2 = .int .i64 0 ∧ v3 = .int .i64 0 ∧ v4 = .int .i64 0 ∧ wr = w5) (fun _ _ _ _ _ => 0)
  case atStart => exact ⟨rfl, rfl, rfl, rfl, rfl⟩
  obtain ⟨rfl, rfl, rfl, rfl, rfl⟩ := hrel
  go_wp2_with fail
  refine (HLO.out wr K5.out).mono ?_
  rintro e w6 ⟨rfl, hb6⟩
  have K6 : Hid (Below w.heap.size w w6) := bel K5.out hb6
  clear hb6
  go_wp2_with fail
  refine (HER2.out w6 K6.out).mono ?_
  rintro e w7 ⟨rfl, hb7⟩
  have K7 : Hid (Below w.heap.size w w7) := bel K6.out hb7
  clear hb7
  go_wp2_with fail
  refine (HSL.out w7 K7.out).mono ?_
  rintro e w8 ⟨rfl, hb8⟩
  have K8 : Hid (Below w.heap.size w w8) := bel K7.out hb8
  clear hb8
  go_wp2_with fail
  refine (HER2.out w8 K8.out).mono ?_
  rintro e w9 ⟨rfl, hb9⟩
  have K9 : Hid (Below w.heap.size w w9) := bel K8.out hb9
  clear hb9
  go_wp2_with fail
  go_loopw [27, 28] (fun v1 v2 wr => v1 = .int .i64 0 ∧ v2 = .int .i64 0 ∧ wr = w9) (fun _ _ _ => 0)
  case atStart => exact ⟨rfl, rfl, rfl⟩
  obtain ⟨rfl, rfl, rfl⟩ := hrel
  go_wp2_with fail
  refine (HOF.out wr K9.out).mono ?_
  rintro e w10 ⟨rfl, hb10⟩
  have K10 : Hid (Below w.heap.size w w10) := bel K9.out hb10
  clear hb10
  go_wp2_with fail
  refine (HER2.out w10 K10.out).mono ?_
  rintro e w11 ⟨rfl, hb11⟩
  have K11 : Hid (Below w.heap.size w w11) := bel K10.out hb11
  clear hb11
  go_wp2_with fail
  go_ret
  exact ⟨rfl, K11.out⟩

set_option maxRecDepth 100000 in
set_option maxHeartbeats 16000000 in
theorem walk_ok (q : Option Addr) (n c : Nat) (l : List Leaf) (u : Value) (m : List Mk) (f i : Int) (p : ByteArray) (w : World) (hl : l.length = n) (h : LeafsIn w q l) (hs : ∀ x ∈ l, x.1.size ≤ maxLen) (hn : n ≤ c) (hcm : c ≤ maxLen) (hA : MksAt w u m) (hsm : ∀ x ∈ m, x.1.size ≤ maxLen) (hp : p.size ≤ maxLen) (hg : ET w) (h0 : dirE l m = 0) (hck : Pm.chk p.toList = 0) :
    Calls Tryd.prog 4 #[.slice q n c, u, .int .i64 f, .int .i64 i, .string p] w fun e w' => e = .returned (.bool true) ∧ Below w.heap.size w w' := by
  obtain ⟨pu, nu, cu, hu⟩ := Mks_shape hA
  have HBR : Hid (∀ W, Below w.heap.size w W → Calls Tryd.prog 10 #[.slice q n c] W fun e w' => e = .returned (.int .i64 (bookE l)) ∧ Below W.heap.size W w') := fun W hb => Ma.book_ref q n c l W hl (h.below hb) hs (Nat.le_trans hn hcm)
  have HMR : Hid (∀ W, Below w.heap.size w W → Calls Tryd.prog 11 #[u] W fun e w' => e = .returned (.int .i64 (marksE m)) ∧ Below W.heap.size W w') := fun W hb => Wb.marks_ref u m W (hA.below hb) hsm
  have HST : Hid (∀ W, Below w.heap.size w W → Calls Tryd.prog 13 #[.slice q n c, u] W fun e w' => ∃ v, e = .returned (.tuple #[v, errV (dirE l m)]) ∧ DirAt W w' l m v) := fun W hb => stretches_dir q n c l u m W hl (h.below hb) hs hn hcm (hA.below hb) hsm
  have HSL : Hid (∀ W, Below w.heap.size w W → Calls Tryd.prog 18 #[.slice q n c, u, .int .i64 i] W fun e w' => e = .returned (.tuple #[.string (sliR l m i), errV (sliE l m i)]) ∧ Below W.heap.size W w') := fun W hb => slice_any q n c l u m i W hl (h.below hb) hs hn hcm (hA.below hb) hsm
  have HLO : Hid (∀ W, Below w.heap.size w W → Calls Tryd.prog 16 #[.slice q n c, u, .int .i64 f] W fun e w' => e = .returned (.tuple #[.int .i64 (locI l m f : Int), .int .i64 (locJ l m f), errV (locE l m f)]) ∧ Below W.heap.size W w') := fun W hb => locate_any q n c l u m f W hl (h.below hb) hs hn hcm (hA.below hb) hsm
  have HOF : Hid (∀ W, Below w.heap.size w W → Calls Tryd.prog 20 #[.slice q n c, u, .string p] W fun e w' => e = .returned (.tuple #[.int .i64 (ofR l m p : Int), errV (ofE l m p)]) ∧ Below W.heap.size W w') := fun W hb => of_any q n c l u m p W hl (h.below hb) hs hn hcm (hA.below hb) hsm hp
  have HER : Hid (∀ W z, Below w.heap.size w W → Calls Tryd.prog 14 #[errV z, .int .i64 z] W fun e w' => e = .returned (.bool true) ∧ Below W.heap.size W w') := fun W z hb => same_self z W (Kl.ET.below hg hb)
  have hbm := dirE_zero.1 h0
  have HRI : Hid (Bm.Rise l ∧ marksE m = 0) := ⟨(Lf.book_ok hbm.1).2.1, hbm.2⟩
  have HBG : Hid (∀ k, beg l (heads m) k ≤ (text l).length) := beg_le l _
  have HTL : Hid ((text l).length ≤ 300) := by have h9 := Bm.text_len_le l; have := (Bm.bookE_zero.1 hbm.1).1; unfold Hid; omega
  have HH4 : Hid ((heads m).length ≤ 41) := heads_len hbm.2
  have H0 : Hid (dirE l m = 0) := h0
  have HSR : Hid (∀ W, Below w.heap.size w W → Calls Tryd.prog 12 #[.slice q n c, u] W fun e w' => ∃ v', e = .returned v' ∧ MksAt w' v' (stretches l m) ∧ Below W.heap.size W w') := fun W hb => Sk.stretches_ref q n c l u m W hl hn hcm (h.below hb) hbm.1 (hA.below hb) hbm.2
  have HTR : Hid (∀ W, Below w.heap.size w W → Calls Tryd.prog 17 #[.slice q n c] W fun e w' => e = .returned (.string ⟨(text l).toArray⟩) ∧ Below W.heap.size W w') := fun W hb => Mb.text_ref q n c l W hl (h.below hb) (Lf.book_ok hbm.1).2.2 (by have := (Bm.bookE_zero.1 hbm.1).1; omega)
  have HPR : Hid (∀ W, Calls Tryd.prog 19 #[.string p] W fun e w' => e = .returned (.int .i64 (Pm.chk p.toList)) ∧ w' = W) := fun W => Lp.place_ref p W hp
  have HSS : Hid (∀ W v v', MksAt W v (stretches l m) → MksAt W v' (stretches l m) → Calls Tryd.prog 15 #[v, v'] W fun e w' => e = .returned (.bool true) ∧ Below W.heap.size W w') := fun W v v' h1 h2 => by
    have h9 := Sa.stretches_any v v' _ _ W h1 h2 (by rw [stretches_len]; have := HH4.out; omega)
    rw [decide_eq_true rfl] at h9
    exact h9
  rw [hbm.1] at HBR
  rw [hbm.2] at HMR
  rw [h0, errV_zero] at HST
  have HER0 : Hid (∀ W, Below w.heap.size w W → Calls Tryd.prog 14 #[.nilIface, .int .i64 0] W fun e w' => e = .returned (.bool true) ∧ Below W.heap.size W w') := fun W hb => HER.out W 0 hb
  rw [hck] at HPR
  rw [(ofE_ok (l := l) (m := m) (p := p) h0 hck).1, (ofE_ok (l := l) (m := m) (p := p) h0 hck).2, errV_zero] at HOF
  have HK0 : Hid (Below w.heap.size w w) := Below.refl _ _
  rw [hu] at HMR HST HSL HLO HOF HSR ⊢
  clear hl h hs hn hcm hA hsm hp hg hu hbm h0 hck
  go_enter Tryd.func4, Tryd.ntmps4
  go_wp2_with fail
  refine (HBR.out w HK0.out).mono ?_
  rintro e w1 ⟨rfl, hb1⟩
  have K1 : Hid (Below w.heap.size w w1) := bel (Below.refl _ _) hb1
  clear hb1
  go_wp2_with fail
  refine (HMR.out w1 K1.out).mono ?_
  rintro e w2 ⟨rfl, hb2⟩
  have K2 : Hid (Below w.heap.size w w2) := bel K1.out hb2
  clear hb2
  go_wp2_with fail
  refine (HSR.out w2 K2.out).mono ?_
  rintro e w3 ⟨v3, rfl, hm3, hb3⟩
  have K3 : Hid (Below w.heap.size w w3) := bel K2.out hb3
  have HM3 : Hid (∀ W, Below w3.heap.size w3 W → MksAt W v3 (stretches l m)) := fun W hW => hm3.below hW
  obtain ⟨pd, cd, rfl, hin3, _⟩ := hm3
  obtain ⟨b, o, rfl, hc3⟩ := hin3.some (by intro e; have h8 := stretches_len l m; rw [e] at h8; have h9 := heads_pos m; simp at h8; omega)
  have HC3 : Hid (∀ W k, k < (heads m).length → Below w3.heap.size w3 W → MAt W b o k (stOf l (heads m) k)) := fun W k hk hW => by
    have h8 := hc3 k (by rw [stretches_len]; exact hk)
    rw [List.getD_eq_getElem?_getD, stretches_at hk] at h8
    exact MAt.below h8 hW h8.lt
  obtain ⟨nh, hnh⟩ : ∃ nh, nh = (heads m).length := ⟨_, rfl⟩
  rw [stretches_len, ← hnh] at HM3 ⊢
  rw [← hnh] at HC3 HH4 HOF
  have HNH : Hid (nh = (heads m).length) := hnh
  have hn41 : nh ≤ 41 := HH4.out
  clear hb3 hin3 hc3 hnh HSR HBR HMR
  go_wp2_with fail
  refine (HST.out w3 K3.out).mono ?_
  rintro e w4 ⟨v4, rfl, hd4⟩
  have K4 : Hid (Below w.heap.size w w4) := bel K3.out hd4.2.1
  have J4 : Hid (Below w3.heap.size w3 w4) := hd4.2.1
  have HM4 : Hid (∀ W, Below w4.heap.size w4 W → MksAt W v4 (stretches l m)) := fun W hW => by have h9 := hd4.1; rw [stD_ok H0.out] at h9; exact h9.below hW
  clear hd4 HST
  go_wp2_with fail
  refine (HER0.out w4 K4.out).mono ?_
  rintro e w5 ⟨rfl, hb5⟩
  have K5 : Hid (Below w.heap.size w w5) := bel K4.out hb5
  have J5 : Hid (Below w3.heap.size w3 w5) := bel J4.out hb5
  have I5 : Hid (Below w4.heap.size w4 w5) := hb5
  clear hb5
  go_wp2_with fail
  refine (HSS.out w5 v4 _ (HM4.out w5 I5.out) (HM3.out w5 J5.out)).mono ?_
  rintro e w6 ⟨rfl, hb6⟩
  have K6 : Hid (Below w.heap.size w w6) := bel K5.out hb6
  have J6 : Hid (Below w3.heap.size w3 w6) := bel J5.out hb6
  clear hb6 HM4 HM3 HSS
  go_wp2_with fail
  go_loopw [17, 18, 19, 20] (fun v1 v2 v3 v4 wr => ∃ (k : Nat) (f1 a1 i1 : Int), k ≤ nh ∧ v1 = .int .i64 f1 ∧ v2 = .int .i64 a1 ∧ v3 = .int .i64 i1 ∧ v4 = .int .i64 k ∧ Hid (LR l m f k f1 a1 i1) ∧ Hid (Below w6.heap.size w6 wr)) (fun _ _ _ v4 _ => nh - (intOf v4).toNat)
  case atStart => exact ⟨0, 1, 0, 0, by omega, rfl, rfl, rfl, rfl, LR.zero l m f, Below.refl _ _⟩
  case round =>
    obtain ⟨k, f1, a1, i1, hk, rfl, rfl, rfl, rfl, HLR, HB⟩ := hrel
    by_cases hlt : k < nh
    · have hltz : (k : Int) < nh := by omega
      have ha := HC3.out wr k (by first | exact hlt | (rw [← HNH.out]; exact hlt)) (bel J6.out HB.out)
      obtain ⟨c1, c2, c3⟩ := ha
      simp only [stOf] at c1 c2 c3
      obtain ⟨b0, hb0⟩ : ∃ b0, b0 = beg l (heads m) k := ⟨_, rfl⟩
      obtain ⟨b1, hb1⟩ : ∃ b1, b1 = beg l (heads m) (k + 1) := ⟨_, rfl⟩
      rw [← hb0] at c2 c3
      rw [← hb1] at c3
      have h3a : b0 ≤ 300 := by rw [hb0]; exact Nat.le_trans (HBG.out _) HTL.out
      have h3b : b1 ≤ 300 := by rw [hb1]; exact Nat.le_trans (HBG.out _) HTL.out
      obtain ⟨d, hd⟩ : ∃ d : Int, d = (b1 : Int) - b0 := ⟨_, rfl⟩
      rw [← hd] at c3
      have hw : IntKind.i64.wrap ((b0 : Int) + d) = (b1 : Int) := by rw [hd, show (b0 : Int) + (b1 - b0) = b1 by omega]; exact wrap_in3 (by omega) (by omega)
      have HBE : Hid (b0 = beg l (heads m) k ∧ b1 = beg l (heads m) (k + 1)) := ⟨hb0, hb1⟩
      clear hb0 hb1 hd c1
      by_cases hf1 : (b0 : Int) ≤ f
      · by_cases hf2 : f < (b1 : Int)
        · have HLR2 : Hid (LR l m f (k + 1) 0 (k : Int) (f - b0)) := by
            have h9 := LR.yes (o := f) (k := k) HRI.out.1 HRI.out.2 (by rw [← HNH.out]; exact hlt) (by rw [← HBE.out.1]; exact hf1) (by rw [← HBE.out.2]; exact hf2)
            rw [← HBE.out.1] at h9; exact h9
          have hw2 : IntKind.i64.wrap (f - (b0 : Int)) = f - b0 := wrap_in3 (by omega) (by omega)
          go_wp2_with fail
          go_quiet (fail)
          generalize hwq : World.drewN _ _ = wq
          have HBq : Hid (Below w6.heap.size w6 wq) := by rw [← hwq]; exact bel_drew HB.out _
          have c4 : wq.cell? ⟨b, o + k * 3 + 1, none⟩ = some (.int .i64 (b0 : Int)) := by rw [← hwq]; exact c2
          clear hwq c2 c3 hw
          go_wp2_with fail
          go_roundw
          case rel => exact ⟨k + 1, 0, (k : Int), f - b0, by omega, rfl, rfl, rfl, by go_num, HLR2, HBq⟩
          case measure => simp [intOf]; omega
        · have HLR2 : Hid (LR l m f (k + 1) f1 a1 i1) := LR.no HLR.out (by rw [← HBE.out.1, ← HBE.out.2]; exact fun h9 => hf2 h9.2)
          go_wp2_with fail
          go_quiet (fail)
          generalize hwq : World.drewN _ _ = wq
          have HBq : Hid (Below w6.heap.size w6 wq) := by rw [← hwq]; exact bel_drew HB.out _
          clear hwq c2 c3 hw
          go_wp2_with fail
          go_roundw
          case rel => exact ⟨k + 1, f1, a1, i1, by omega, rfl, rfl, rfl, by go_num, HLR2, HBq⟩
          case measure => simp [intOf]; omega
      · have HLR2 : Hid (LR l m f (k + 1) f1 a1 i1) := LR.no HLR.out (by rw [← HBE.out.1, ← HBE.out.2]; exact fun h9 => hf1 h9.1)
        have hfd : decide ((b0 : Int) ≤ f) = false := decide_eq_false hf1
        have hfl : f < (b0 : Int) := by omega
        go_wp2_with fail
        go_quiet (fail)
        generalize hwq : World.drewN _ _ = wq
        have HBq : Hid (Below w6.heap.size w6 wq) := by rw [← hwq]; exact bel_drew HB.out _
        clear hwq c2 c3 hw
        go_wp2_with fail
        go_roundw
        case rel => exact ⟨k + 1, f1, a1, i1, by omega, rfl, rfl, rfl, by go_num, HLR2, HBq⟩
        case measure => simp [intOf]; omega
    · obtain rfl : k = nh := by omega
      have hltz : ¬ (k : Int) < k := by omega
      have hkp : 0 < k := by have h9 := heads_pos m; rw [← HNH.out] at h9; exact h9
      have hkpz : (0 : Int) < k := by omega
      have h9 := LR.done (f := f1) (a := a1) (i := i1) H0.out (by rw [← HNH.out]; exact HLR.out)
      rw [← h9.1, ← h9.2.1, ← h9.2.2] at HLO
      have HERF : Hid (∀ W, Below w.heap.size w W → Calls Tryd.prog 14 #[errV f1, .int .i64 f1] W fun e w' => e = .returned (.bool true) ∧ Below W.heap.size W w') := fun W hb => HER.out W f1 hb
      obtain ⟨EF, hEF⟩ : ∃ EF, EF = errV f1 := ⟨_, rfl⟩
      rw [← hEF] at HLO HERF
      have K7 : Hid (Below w.heap.size w wr) := bel K6.out HB.out
      have J7 : Hid (Below w3.heap.size w3 wr) := bel J6.out HB.out
      clear h9 hEF HLR
      go_wp2_with fail
      refine (HLO.out wr K7.out).mono ?_
      rintro e w8 ⟨rfl, hb8⟩
      have K8 : Hid (Below w.heap.size w w8) := bel K7.out hb8
      have J8 : Hid (Below w3.heap.size w3 w8) := bel J7.out hb8
      clear hb8
      go_wp2_with fail
      refine (HERF.out w8 K8.out).mono ?_
      rintro e w9 ⟨rfl, hb9⟩
      have K9 : Hid (Below w.heap.size w w9) := bel K8.out hb9
      have J9 : Hid (Below w3.heap.size w3 w9) := bel J8.out hb9
      clear hb9
      clear HLO HERF
      by_cases hin : 0 ≤ i ∧ i < k
      · obtain ⟨x, rfl⟩ : ∃ x : Nat, i = (x : Int) := ⟨i.toNat, by omega⟩
        have hxk : x < k := by omega
        have hxz : (x : Int) < k := by omega
        have hxh : x < (heads m).length := by rw [← HNH.out]; exact hxk
        obtain ⟨S, hS⟩ : ∃ S : ByteArray, S = ⟨(sliceB l (heads m) x).toArray⟩ := ⟨_, rfl⟩
        rw [(sliE_in (l := l) (m := m) H0.out hxh).1, (sliE_in (l := l) (m := m) H0.out hxh).2, errV_zero, ← hS] at HSL
        have HE2 := HER0
        obtain ⟨c1, c2, c3⟩ := HC3.out w9 x hxk J9.out
        simp only [stOf] at c2 c3
        obtain ⟨b0, hb0⟩ : ∃ b0, b0 = beg l (heads m) x := ⟨_, rfl⟩
        obtain ⟨b1, hb1⟩ : ∃ b1, b1 = beg l (heads m) (x + 1) := ⟨_, rfl⟩
        rw [← hb0] at c2 c3
        rw [← hb1] at c3
        obtain ⟨T, hT⟩ : ∃ T : ByteArray, T = ⟨(text l).toArray⟩ := ⟨_, rfl⟩
        have hTs : T.size = (text l).length := by rw [hT]; rfl
        have h3a : b0 ≤ b1 := by rw [hb0, hb1]; exact beg_mono HRI.out.1 HRI.out.2 (Nat.le_succ x)
        have h3b : b1 ≤ T.size := by rw [hTs, hb1]; exact HBG.out _
        have h3c : T.size ≤ 300 := by rw [hTs]; exact HTL.out
        have h3z : (b0 : Int) ≤ b1 := by omega
        have h3y : (b1 : Int) ≤ T.size := by omega
        obtain ⟨d, hd⟩ : ∃ d : Int, d = (b1 : Int) - b0 := ⟨_, rfl⟩
        rw [← hd] at c3
        have hw : IntKind.i64.wrap ((b0 : Int) + d) = (b1 : Int) := by rw [hd, show (b0 : Int) + (b1 - b0) = b1 by omega]; exact wrap_in3 (by omega) (by omega)
        have hSE : T.extract b0 b1 = S := by rw [hT, hb0, hb1, hS]; exact cut_slice l _ x
        rw [← hT] at HTR
        rw [← hSE] at HSL
        have hss : ((T.extract b0 b1).toList == (T.extract b0 b1).toList) = true := by simp
        have HSE : Hid (T.extract b0 b1 = S) := hSE
        clear hin hxh hS hb0 hb1 hT hTs hd c1 hSE
        go_wp2_with fail
        go_region_held3 (fun W => W.cell? ⟨b, o + x * 3 + 1, none⟩ = some (.int .i64 (b0 : Int)) ∧ W.cell? ⟨b, o + x * 3 + 2, none⟩ = some (.int .i64 d)) (first | (go_keep; done) | (refine ⟨keep_cellN hb7 ?_, keep_cellN hb7 ?_⟩ <;> (go_split_ands; assumption))) (first
          | (go_at_call 17; refine (HTR.out _ (by first | exact K9.out.drew | exact K9.out)).mono ?_; rintro e w10 ⟨rfl, hb7⟩; have K10 : Hid (Below w.heap.size w w10) := bel (by first | exact K9.out.drew | exact K9.out) hb7; have J10 : Hid (Below w3.heap.size w3 w10) := bel (by first | exact J9.out.drew | exact J9.out) hb7))
        clear hb7
        go_wp2_with fail
        refine (HSL.out w10 K10.out).mono ?_
        rintro e w11 ⟨rfl, hb11⟩
        have K11 : Hid (Below w.heap.size w w11) := bel K10.out hb11
        have J11 : Hid (Below w3.heap.size w3 w11) := bel J10.out hb11
        clear hb11
        go_wp2_with fail
        refine (HE2.out w11 K11.out).mono ?_
        rintro e w12 ⟨rfl, hb12⟩
        have K12 : Hid (Below w.heap.size w w12) := bel K11.out hb12
        have J12 : Hid (Below w3.heap.size w3 w12) := bel J11.out hb12
        clear hb12
        go_wp2_with fail
        refine (HPR.out w12).mono ?_
        rintro e w13 ⟨rfl, rfl⟩
        go_wp2_with fail
        go_loopw [27, 28] (fun v1 v2 wr => ∃ (j x : Nat), j ≤ k ∧ v1 = .int .i64 (x : Int) ∧ v2 = .int .i64 j ∧ Hid (x = ofTo (heads m) p j) ∧ w13 = wr) (fun _ v2 _ => k - (intOf v2).toNat)
        case atStart => exact ⟨0, 0, by omega, rfl, rfl, rfl, rfl⟩
        case round =>
          obtain ⟨j, x, hj, rfl, rfl, HX, rfl⟩ := hrel
          by_cases hjt : j < k
          · have hjz : (j : Int) < k := by omega
            obtain ⟨c1, c2, c3⟩ := HC3.out w13 j hjt J12.out
            simp only [stOf] at c1
            obtain ⟨sp, hsp⟩ : ∃ sp, sp = (heads m).getD j ByteArray.empty := ⟨_, rfl⟩
            rw [← hsp] at c1
            have HS9 : Hid (ofTo (heads m) p (j + 1) = if bytesLess p.toList sp.toList = true then ofTo (heads m) p j else j) := by rw [hsp]; rfl
            clear hsp c2 c3
            cases hls : bytesLess p.toList sp.toList
            · have HX2 : Hid (j = ofTo (heads m) p (j + 1)) := by unfold Hid; rw [HS9.out, if_neg (by rw [hls]; simp)]
              cases hl2 : bytesLess sp.toList p.toList
              · have heq : (sp.toList == p.toList) = true := by
                  by_cases h9 : sp.toList = p.toList
                  · simpa using h9
                  · rw [Bm.less_total hl2 h9] at hls; cases hls
                go_wp2_with fail
                go_roundw
                case rel => exact ⟨j + 1, j, by omega, rfl, by go_num, HX2, by simp⟩
                case measure => simp [intOf]; omega
              · go_wp2_with fail
                go_roundw
                case rel => exact ⟨j + 1, j, by omega, rfl, by go_num, HX2, by simp⟩
                case measure => simp [intOf]; omega
            · have HX2 : Hid (x = ofTo (heads m) p (j + 1)) := by unfold Hid; rw [HS9.out, if_pos hls]; exact HX.out
              have hl2 : bytesLess sp.toList p.toList = false := Bm.less_asymm hls
              have heq : (sp.toList == p.toList) = false := by
                simp only [beq_eq_false_iff_ne, ne_eq]; intro h9; rw [h9, Bm.less_irrefl] at hls; cases hls
              go_wp2_with fail
              go_roundw
              case rel => exact ⟨j + 1, x, by omega, rfl, by go_num, HX2, by simp⟩
              case measure => simp [intOf]; omega
          · obtain rfl : j = k := by omega
            have hjz : ¬ (j : Int) < j := by omega
            have CO := HOF.out w13 K12.out
            rw [← HX.out] at CO
            go_wp2_with fail
            refine CO.mono ?_
            rintro e w14 ⟨rfl, hb14⟩
            have K14 : Hid (Below w.heap.size w w14) := bel K12.out hb14
            clear hb14 CO
            go_wp2_with fail
            refine (HER0.out w14 K14.out).mono ?_
            rintro e w15 ⟨rfl, hb15⟩
            have K15 : Hid (Below w.heap.size w w15) := bel K14.out hb15
            clear hb15
            go_wp2_with fail
            go_ret
            exact ⟨rfl, K15.out⟩
      · have hout : ¬ (0 ≤ i ∧ i < (heads m).length) := by rw [← HNH.out]; exact hin
        rw [(sliE_out (l := l) (m := m) H0.out hout).1, (sliE_out (l := l) (m := m) H0.out hout).2] at HSL
        have HE2 : Hid (∀ W, Below w.heap.size w W → Calls Tryd.prog 14 #[errV 1, .int .i64 1] W fun e w' => e = .returned (.bool true) ∧ Below W.heap.size W w') := fun W hb => HER.out W 1 hb
        obtain ⟨E2, hE2⟩ : ∃ E2, E2 = errV 1 := ⟨_, rfl⟩
        rw [← hE2] at HSL HE2
        have K10 := K9
        have J10 := J9
        have hss : ((⟨#[]⟩ : ByteArray).toList == (⟨#[]⟩ : ByteArray).toList) = true := by simp
        clear hE2 hout
        by_cases hi0 : i < 0
        · clear hin
          go_wp2_with fail
          refine (HSL.out w9 K10.out).mono ?_
          rintro e w11 ⟨rfl, hb11⟩
          have K11 : Hid (Below w.heap.size w w11) := bel K10.out hb11
          have J11 : Hid (Below w3.heap.size w3 w11) := bel J10.out hb11
          clear hb11
          go_wp2_with fail
          refine (HE2.out w11 K11.out).mono ?_
          rintro e w12 ⟨rfl, hb12⟩
          have K12 : Hid (Below w.heap.size w w12) := bel K11.out hb12
          have J12 : Hid (Below w3.heap.size w3 w12) := bel J11.out hb12
          clear hb12
          go_wp2_with fail
          refine (HPR.out w12).mono ?_
          rintro e w13 ⟨rfl, rfl⟩
          go_wp2_with fail
          go_loopw [27, 28] (fun v1 v2 wr => ∃ (j x : Nat), j ≤ k ∧ v1 = .int .i64 (x : Int) ∧ v2 = .int .i64 j ∧ Hid (x = ofTo (heads m) p j) ∧ w13 = wr) (fun _ v2 _ => k - (intOf v2).toNat)
          case atStart => exact ⟨0, 0, by omega, rfl, rfl, rfl, rfl⟩
          case round =>
            obtain ⟨j, x, hj, rfl, rfl, HX, rfl⟩ := hrel
            by_cases hjt : j < k
            · have hjz : (j : Int) < k := by omega
              obtain ⟨c1, c2, c3⟩ := HC3.out w13 j hjt J12.out
              simp only [stOf] at c1
              obtain ⟨sp, hsp⟩ : ∃ sp, sp = (heads m).getD j ByteArray.empty := ⟨_, rfl⟩
              rw [← hsp] at c1
              have HS9 : Hid (ofTo (heads m) p (j + 1) = if bytesLess p.toList sp.toList = true then ofTo (heads m) p j else j) := by rw [hsp]; rfl
              clear hsp c2 c3
              cases hls : bytesLess p.toList sp.toList
              · have HX2 : Hid (j = ofTo (heads m) p (j + 1)) := by unfold Hid; rw [HS9.out, if_neg (by rw [hls]; simp)]
                cases hl2 : bytesLess sp.toList p.toList
                · have heq : (sp.toList == p.toList) = true := by
                    by_cases h9 : sp.toList = p.toList
                    · simpa using h9
                    · rw [Bm.less_total hl2 h9] at hls; cases hls
                  go_wp2_with fail
                  go_roundw
                  case rel => exact ⟨j + 1, j, by omega, rfl, by go_num, HX2, by simp⟩
                  case measure => simp [intOf]; omega
                · go_wp2_with fail
                  go_roundw
                  case rel => exact ⟨j + 1, j, by omega, rfl, by go_num, HX2, by simp⟩
                  case measure => simp [intOf]; omega
              · have HX2 : Hid (x = ofTo (heads m) p (j + 1)) := by unfold Hid; rw [HS9.out, if_pos hls]; exact HX.out
                have hl2 : bytesLess sp.toList p.toList = false := Bm.less_asymm hls
                have heq : (sp.toList == p.toList) = false := by
                  simp only [beq_eq_false_iff_ne, ne_eq]; intro h9; rw [h9, Bm.less_irrefl] at hls; cases hls
                go_wp2_with fail
                go_roundw
                case rel => exact ⟨j + 1, x, by omega, rfl, by go_num, HX2, by simp⟩
                case measure => simp [intOf]; omega
            · obtain rfl : j = k := by omega
              have hjz : ¬ (j : Int) < j := by omega
              have CO := HOF.out w13 K12.out
              rw [← HX.out] at CO
              go_wp2_with fail
              refine CO.mono ?_
              rintro e w14 ⟨rfl, hb14⟩
              have K14 : Hid (Below w.heap.size w w14) := bel K12.out hb14
              clear hb14 CO
              go_wp2_with fail
              refine (HER0.out w14 K14.out).mono ?_
              rintro e w15 ⟨rfl, hb15⟩
              have K15 : Hid (Below w.heap.size w w15) := bel K14.out hb15
              clear hb15
              go_wp2_with fail
              go_ret
              exact ⟨rfl, K15.out⟩
        · have hi1 : (k : Int) ≤ i := by omega
          clear hin
          go_wp2_with fail
          refine (HSL.out w9 K10.out).mono ?_
          rintro e w11 ⟨rfl, hb11⟩
          have K11 : Hid (Below w.heap.size w w11) := bel K10.out hb11
          have J11 : Hid (Below w3.heap.size w3 w11) := bel J10.out hb11
          clear hb11
          go_wp2_with fail
          refine (HE2.out w11 K11.out).mono ?_
          rintro e w12 ⟨rfl, hb12⟩
          have K12 : Hid (Below w.heap.size w w12) := bel K11.out hb12
          have J12 : Hid (Below w3.heap.size w3 w12) := bel J11.out hb12
          clear hb12
          go_wp2_with fail
          refine (HPR.out w12).mono ?_
          rintro e w13 ⟨rfl, rfl⟩
          go_wp2_with fail
          go_loopw [27, 28] (fun v1 v2 wr => ∃ (j x : Nat), j ≤ k ∧ v1 = .int .i64 (x : Int) ∧ v2 = .int .i64 j ∧ Hid (x = ofTo (heads m) p j) ∧ w13 = wr) (fun _ v2 _ => k - (intOf v2).toNat)
          case atStart => exact ⟨0, 0, by omega, rfl, rfl, rfl, rfl⟩
          case round =>
            obtain ⟨j, x, hj, rfl, rfl, HX, rfl⟩ := hrel
            by_cases hjt : j < k
            · have hjz : (j : Int) < k := by omega
              obtain ⟨c1, c2, c3⟩ := HC3.out w13 j hjt J12.out
              simp only [stOf] at c1
              obtain ⟨sp, hsp⟩ : ∃ sp, sp = (heads m).getD j ByteArray.empty := ⟨_, rfl⟩
              rw [← hsp] at c1
              have HS9 : Hid (ofTo (heads m) p (j + 1) = if bytesLess p.toList sp.toList = true then ofTo (heads m) p j else j) := by rw [hsp]; rfl
              clear hsp c2 c3
              cases hls : bytesLess p.toList sp.toList
              · have HX2 : Hid (j = ofTo (heads m) p (j + 1)) := by unfold Hid; rw [HS9.out, if_neg (by rw [hls]; simp)]
                cases hl2 : bytesLess sp.toList p.toList
                · have heq : (sp.toList == p.toList) = true := by
                    by_cases h9 : sp.toList = p.toList
                    · simpa using h9
                    · rw [Bm.less_total hl2 h9] at hls; cases hls
                  go_wp2_with fail
                  go_roundw
                  case rel => exact ⟨j + 1, j, by omega, rfl, by go_num, HX2, by simp⟩
                  case measure => simp [intOf]; omega
                · go_wp2_with fail
                  go_roundw
                  case rel => exact ⟨j + 1, j, by omega, rfl, by go_num, HX2, by simp⟩
                  case measure => simp [intOf]; omega
              · have HX2 : Hid (x = ofTo (heads m) p (j + 1)) := by unfold Hid; rw [HS9.out, if_pos hls]; exact HX.out
                have hl2 : bytesLess sp.toList p.toList = false := Bm.less_asymm hls
                have heq : (sp.toList == p.toList) = false := by
                  simp only [beq_eq_false_iff_ne, ne_eq]; intro h9; rw [h9, Bm.less_irrefl] at hls; cases hls
                go_wp2_with fail
                go_roundw
                case rel => exact ⟨j + 1, x, by omega, rfl, by go_num, HX2, by simp⟩
                case measure => simp [intOf]; omega
            · obtain rfl : j = k := by omega
              have hjz : ¬ (j : Int) < j := by omega
              have CO := HOF.out w13 K12.out
              rw [← HX.out] at CO
              go_wp2_with fail
              refine CO.mono ?_
              rintro e w14 ⟨rfl, hb14⟩
              have K14 : Hid (Below w.heap.size w w14) := bel K12.out hb14
              clear hb14 CO
              go_wp2_with fail
              refine (HER0.out w14 K14.out).mono ?_
              rintro e w15 ⟨rfl, hb15⟩
              have K15 : Hid (Below w.heap.size w w15) := bel K14.out hb15
              clear hb15
              go_wp2_with fail
              go_ret
              exact ⟨rfl, K15.out⟩

set_option maxRecDepth 100000 in
set_option maxHeartbeats 16000000 in
theorem walk_place (q : Option Addr) (n c : Nat) (l : List Leaf) (u : Value) (m : List Mk) (f i : Int) (p : ByteArray) (w : World) (hl : l.length = n) (h : LeafsIn w q l) (hs : ∀ x ∈ l, x.1.size ≤ maxLen) (hn : n ≤ c) (hcm : c ≤ maxLen) (hA : MksAt w u m) (hsm : ∀ x ∈ m, x.1.size ≤ maxLen) (hp : p.size ≤ maxLen) (hg : ET w) (h0 : dirE l m = 0) (hck : ¬ Pm.chk p.toList = 0) :
    Calls Tryd.prog 4 #[.slice q n c, u, .int .i64 f, .int .i64 i, .string p] w fun e w' => e = .returned (.bool true) ∧ Below w.heap.size w w' := by
  obtain ⟨pu, nu, cu, hu⟩ := Mks_shape hA
  have HBR : Hid (∀ W, Below w.heap.size w W → Calls Tryd.prog 10 #[.slice q n c] W fun e w' => e = .returned (.int .i64 (bookE l)) ∧ Below W.heap.size W w') := fun W hb => Ma.book_ref q n c l W hl (h.below hb) hs (Nat.le_trans hn hcm)
  have HMR : Hid (∀ W, Below w.heap.size w W → Calls Tryd.prog 11 #[u] W fun e w' => e = .returned (.int .i64 (marksE m)) ∧ Below W.heap.size W w') := fun W hb => Wb.marks_ref u m W (hA.below hb) hsm
  have HST : Hid (∀ W, Below w.heap.size w W → Calls Tryd.prog 13 #[.slice q n c, u] W fun e w' => ∃ v, e = .returned (.tuple #[v, errV (dirE l m)]) ∧ DirAt W w' l m v) := fun W hb => stretches_dir q n c l u m W hl (h.below hb) hs hn hcm (hA.below hb) hsm
  have HSL : Hid (∀ W, Below w.heap.size w W → Calls Tryd.prog 18 #[.slice q n c, u, .int .i64 i] W fun e w' => e = .returned (.tuple #[.string (sliR l m i), errV (sliE l m i)]) ∧ Below W.heap.size W w') := fun W hb => slice_any q n c l u m i W hl (h.below hb) hs hn hcm (hA.below hb) hsm
  have HLO : Hid (∀ W, Below w.heap.size w W → Calls Tryd.prog 16 #[.slice q n c, u, .int .i64 f] W fun e w' => e = .returned (.tuple #[.int .i64 (locI l m f : Int), .int .i64 (locJ l m f), errV (locE l m f)]) ∧ Below W.heap.size W w') := fun W hb => locate_any q n c l u m f W hl (h.below hb) hs hn hcm (hA.below hb) hsm
  have HOF : Hid (∀ W, Below w.heap.size w W → Calls Tryd.prog 20 #[.slice q n c, u, .string p] W fun e w' => e = .returned (.tuple #[.int .i64 (ofR l m p : Int), errV (ofE l m p)]) ∧ Below W.heap.size W w') := fun W hb => of_any q n c l u m p W hl (h.below hb) hs hn hcm (hA.below hb) hsm hp
  have HER : Hid (∀ W z, Below w.heap.size w W → Calls Tryd.prog 14 #[errV z, .int .i64 z] W fun e w' => e = .returned (.bool true) ∧ Below W.heap.size W w') := fun W z hb => same_self z W (Kl.ET.below hg hb)
  have hbm := dirE_zero.1 h0
  have HRI : Hid (Bm.Rise l ∧ marksE m = 0) := ⟨(Lf.book_ok hbm.1).2.1, hbm.2⟩
  have HBG : Hid (∀ k, beg l (heads m) k ≤ (text l).length) := beg_le l _
  have HTL : Hid ((text l).length ≤ 300) := by have h9 := Bm.text_len_le l; have := (Bm.bookE_zero.1 hbm.1).1; unfold Hid; omega
  have HH4 : Hid ((heads m).length ≤ 41) := heads_len hbm.2
  have H0 : Hid (dirE l m = 0) := h0
  have HSR : Hid (∀ W, Below w.heap.size w W → Calls Tryd.prog 12 #[.slice q n c, u] W fun e w' => ∃ v', e = .returned v' ∧ MksAt w' v' (stretches l m) ∧ Below W.heap.size W w') := fun W hb => Sk.stretches_ref q n c l u m W hl hn hcm (h.below hb) hbm.1 (hA.below hb) hbm.2
  have HTR : Hid (∀ W, Below w.heap.size w W → Calls Tryd.prog 17 #[.slice q n c] W fun e w' => e = .returned (.string ⟨(text l).toArray⟩) ∧ Below W.heap.size W w') := fun W hb => Mb.text_ref q n c l W hl (h.below hb) (Lf.book_ok hbm.1).2.2 (by have := (Bm.bookE_zero.1 hbm.1).1; omega)
  have HPR : Hid (∀ W, Calls Tryd.prog 19 #[.string p] W fun e w' => e = .returned (.int .i64 (Pm.chk p.toList)) ∧ w' = W) := fun W => Lp.place_ref p W hp
  have HSS : Hid (∀ W v v', MksAt W v (stretches l m) → MksAt W v' (stretches l m) → Calls Tryd.prog 15 #[v, v'] W fun e w' => e = .returned (.bool true) ∧ Below W.heap.size W w') := fun W v v' h1 h2 => by
    have h9 := Sa.stretches_any v v' _ _ W h1 h2 (by rw [stretches_len]; have := HH4.out; omega)
    rw [decide_eq_true rfl] at h9
    exact h9
  rw [hbm.1] at HBR
  rw [hbm.2] at HMR
  rw [h0, errV_zero] at HST
  have HER0 : Hid (∀ W, Below w.heap.size w W → Calls Tryd.prog 14 #[.nilIface, .int .i64 0] W fun e w' => e = .returned (.bool true) ∧ Below W.heap.size W w') := fun W hb => HER.out W 0 hb
  rw [(ofE_wrong (l := l) (m := m) (p := p) h0 hck).1, (ofE_wrong (l := l) (m := m) (p := p) h0 hck).2] at HOF
  obtain ⟨zc, hzc⟩ : ∃ zc, zc = Pm.chk p.toList := ⟨_, rfl⟩
  rw [← hzc] at HOF HPR hck
  have hzc0 : (zc == 0) = false := by simpa using hck
  have HERC : Hid (∀ W, Below w.heap.size w W → Calls Tryd.prog 14 #[errV zc, .int .i64 zc] W fun e w' => e = .returned (.bool true) ∧ Below W.heap.size W w') := fun W hb => HER.out W zc hb
  obtain ⟨EC, hEC⟩ : ∃ EC, EC = errV zc := ⟨_, rfl⟩
  rw [← hEC] at HOF HERC
  clear hzc hEC
  have HK0 : Hid (Below w.heap.size w w) := Below.refl _ _
  rw [hu] at HMR HST HSL HLO HOF HSR ⊢
  clear hl h hs hn hcm hA hsm hp hg hu hbm h0 hck
  go_enter Tryd.func4, Tryd.ntmps4
  go_wp2_with fail
  refine (HBR.out w HK0.out).mono ?_
  rintro e w1 ⟨rfl, hb1⟩
  have K1 : Hid (Below w.heap.size w w1) := bel (Below.refl _ _) hb1
  clear hb1
  go_wp2_with fail
  refine (HMR.out w1 K1.out).mono ?_
  rintro e w2 ⟨rfl, hb2⟩
  have K2 : Hid (Below w.heap.size w w2) := bel K1.out hb2
  clear hb2
  go_wp2_with fail
  refine (HSR.out w2 K2.out).mono ?_
  rintro e w3 ⟨v3, rfl, hm3, hb3⟩
  have K3 : Hid (Below w.heap.size w w3) := bel K2.out hb3
  have HM3 : Hid (∀ W, Below w3.heap.size w3 W → MksAt W v3 (stretches l m)) := fun W hW => hm3.below hW
  obtain ⟨pd, cd, rfl, hin3, _⟩ := hm3
  obtain ⟨b, o, rfl, hc3⟩ := hin3.some (by intro e; have h8 := stretches_len l m; rw [e] at h8; have h9 := heads_pos m; simp at h8; omega)
  have HC3 : Hid (∀ W k, k < (heads m).length → Below w3.heap.size w3 W → MAt W b o k (stOf l (heads m) k)) := fun W k hk hW => by
    have h8 := hc3 k (by rw [stretches_len]; exact hk)
    rw [List.getD_eq_getElem?_getD, stretches_at hk] at h8
    exact MAt.below h8 hW h8.lt
  obtain ⟨nh, hnh⟩ : ∃ nh, nh = (heads m).length := ⟨_, rfl⟩
  rw [stretches_len, ← hnh] at HM3 ⊢
  rw [← hnh] at HC3 HH4
  have HNH : Hid (nh = (heads m).length) := hnh
  have hn41 : nh ≤ 41 := HH4.out
  clear hb3 hin3 hc3 hnh HSR HBR HMR
  go_wp2_with fail
  refine (HST.out w3 K3.out).mono ?_
  rintro e w4 ⟨v4, rfl, hd4⟩
  have K4 : Hid (Below w.heap.size w w4) := bel K3.out hd4.2.1
  have J4 : Hid (Below w3.heap.size w3 w4) := hd4.2.1
  have HM4 : Hid (∀ W, Below w4.heap.size w4 W → MksAt W v4 (stretches l m)) := fun W hW => by have h9 := hd4.1; rw [stD_ok H0.out] at h9; exact h9.below hW
  clear hd4 HST
  go_wp2_with fail
  refine (HER0.out w4 K4.out).mono ?_
  rintro e w5 ⟨rfl, hb5⟩
  have K5 : Hid (Below w.heap.size w w5) := bel K4.out hb5
  have J5 : Hid (Below w3.heap.size w3 w5) := bel J4.out hb5
  have I5 : Hid (Below w4.heap.size w4 w5) := hb5
  clear hb5
  go_wp2_with fail
  refine (HSS.out w5 v4 _ (HM4.out w5 I5.out) (HM3.out w5 J5.out)).mono ?_
  rintro e w6 ⟨rfl, hb6⟩
  have K6 : Hid (Below w.heap.size w w6) := bel K5.out hb6
  have J6 : Hid (Below w3.heap.size w3 w6) := bel J5.out hb6
  clear hb6 HM4 HM3 HSS
  go_wp2_with fail
  go_loopw [17, 18, 19, 20] (fun v1 v2 v3 v4 wr => ∃ (k : Nat) (f1 a1 i1 : Int), k ≤ nh ∧ v1 = .int .i64 f1 ∧ v2 = .int .i64 a1 ∧ v3 = .int .i64 i1 ∧ v4 = .int .i64 k ∧ Hid (LR l m f k f1 a1 i1) ∧ Hid (Below w6.heap.size w6 wr)) (fun _ _ _ v4 _ => nh - (intOf v4).toNat)
  case atStart => exact ⟨0, 1, 0, 0, by omega, rfl, rfl, rfl, rfl, LR.zero l m f, Below.refl _ _⟩
  case round =>
    obtain ⟨k, f1, a1, i1, hk, rfl, rfl, rfl, rfl, HLR, HB⟩ := hrel
    by_cases hlt : k < nh
    · have hltz : (k : Int) < nh := by omega
      have ha := HC3.out wr k (by first | exact hlt | (rw [← HNH.out]; exact hlt)) (bel J6.out HB.out)
      obtain ⟨c1, c2, c3⟩ := ha
      simp only [stOf] at c1 c2 c3
      obtain ⟨b0, hb0⟩ : ∃ b0, b0 = beg l (heads m) k := ⟨_, rfl⟩
      obtain ⟨b1, hb1⟩ : ∃ b1, b1 = beg l (heads m) (k + 1) := ⟨_, rfl⟩
      rw [← hb0] at c2 c3
      rw [← hb1] at c3
      have h3a : b0 ≤ 300 := by rw [hb0]; exact Nat.le_trans (HBG.out _) HTL.out
      have h3b : b1 ≤ 300 := by rw [hb1]; exact Nat.le_trans (HBG.out _) HTL.out
      obtain ⟨d, hd⟩ : ∃ d : Int, d = (b1 : Int) - b0 := ⟨_, rfl⟩
      rw [← hd] at c3
      have hw : IntKind.i64.wrap ((b0 : Int) + d) = (b1 : Int) := by rw [hd, show (b0 : Int) + (b1 - b0) = b1 by omega]; exact wrap_in3 (by omega) (by omega)
      have HBE : Hid (b0 = beg l (heads m) k ∧ b1 = beg l (heads m) (k + 1)) := ⟨hb0, hb1⟩
      clear hb0 hb1 hd c1
      by_cases hf1 : (b0 : Int) ≤ f
      · by_cases hf2 : f < (b1 : Int)
        · have HLR2 : Hid (LR l m f (k + 1) 0 (k : Int) (f - b0)) := by
            have h9 := LR.yes (o := f) (k := k) HRI.out.1 HRI.out.2 (by rw [← HNH.out]; exact hlt) (by rw [← HBE.out.1]; exact hf1) (by rw [← HBE.out.2]; exact hf2)
            rw [← HBE.out.1] at h9; exact h9
          have hw2 : IntKind.i64.wrap (f - (b0 : Int)) = f - b0 := wrap_in3 (by omega) (by omega)
          go_wp2_with fail
          go_quiet (fail)
          generalize hwq : World.drewN _ _ = wq
          have HBq : Hid (Below w6.heap.size w6 wq) := by rw [← hwq]; exact bel_drew HB.out _
          have c4 : wq.cell? ⟨b, o + k * 3 + 1, none⟩ = some (.int .i64 (b0 : Int)) := by rw [← hwq]; exact c2
          clear hwq c2 c3 hw
          go_wp2_with fail
          go_roundw
          case rel => exact ⟨k + 1, 0, (k : Int), f - b0, by omega, rfl, rfl, rfl, by go_num, HLR2, HBq⟩
          case measure => simp [intOf]; omega
        · have HLR2 : Hid (LR l m f (k + 1) f1 a1 i1) := LR.no HLR.out (by rw [← HBE.out.1, ← HBE.out.2]; exact fun h9 => hf2 h9.2)
          go_wp2_with fail
          go_quiet (fail)
          generalize hwq : World.drewN _ _ = wq
          have HBq : Hid (Below w6.heap.size w6 wq) := by rw [← hwq]; exact bel_drew HB.out _
          clear hwq c2 c3 hw
          go_wp2_with fail
          go_roundw
          case rel => exact ⟨k + 1, f1, a1, i1, by omega, rfl, rfl, rfl, by go_num, HLR2, HBq⟩
          case measure => simp [intOf]; omega
      · have HLR2 : Hid (LR l m f (k + 1) f1 a1 i1) := LR.no HLR.out (by rw [← HBE.out.1, ← HBE.out.2]; exact fun h9 => hf1 h9.1)
        have hfd : decide ((b0 : Int) ≤ f) = false := decide_eq_false hf1
        have hfl : f < (b0 : Int) := by omega
        go_wp2_with fail
        go_quiet (fail)
        generalize hwq : World.drewN _ _ = wq
        have HBq : Hid (Below w6.heap.size w6 wq) := by rw [← hwq]; exact bel_drew HB.out _
        clear hwq c2 c3 hw
        go_wp2_with fail
        go_roundw
        case rel => exact ⟨k + 1, f1, a1, i1, by omega, rfl, rfl, rfl, by go_num, HLR2, HBq⟩
        case measure => simp [intOf]; omega
    · obtain rfl : k = nh := by omega
      have hltz : ¬ (k : Int) < k := by omega
      have hkp : 0 < k := by have h9 := heads_pos m; rw [← HNH.out] at h9; exact h9
      have hkpz : (0 : Int) < k := by omega
      have h9 := LR.done (f := f1) (a := a1) (i := i1) H0.out (by rw [← HNH.out]; exact HLR.out)
      rw [← h9.1, ← h9.2.1, ← h9.2.2] at HLO
      have HERF : Hid (∀ W, Below w.heap.size w W → Calls Tryd.prog 14 #[errV f1, .int .i64 f1] W fun e w' => e = .returned (.bool true) ∧ Below W.heap.size W w') := fun W hb => HER.out W f1 hb
      obtain ⟨EF, hEF⟩ : ∃ EF, EF = errV f1 := ⟨_, rfl⟩
      rw [← hEF] at HLO HERF
      have K7 : Hid (Below w.heap.size w wr) := bel K6.out HB.out
      have J7 : Hid (Below w3.heap.size w3 wr) := bel J6.out HB.out
      clear h9 hEF HLR
      go_wp2_with fail
      refine (HLO.out wr K7.out).mono ?_
      rintro e w8 ⟨rfl, hb8⟩
      have K8 : Hid (Below w.heap.size w w8) := bel K7.out hb8
      have J8 : Hid (Below w3.heap.size w3 w8) := bel J7.out hb8
      clear hb8
      go_wp2_with fail
      refine (HERF.out w8 K8.out).mono ?_
      rintro e w9 ⟨rfl, hb9⟩
      have K9 : Hid (Below w.heap.size w w9) := bel K8.out hb9
      have J9 : Hid (Below w3.heap.size w3 w9) := bel J8.out hb9
      clear hb9
      clear HLO HERF
      by_cases hin : 0 ≤ i ∧ i < k
      · obtain ⟨x, rfl⟩ : ∃ x : Nat, i = (x : Int) := ⟨i.toNat, by omega⟩
        have hxk : x < k := by omega
        have hxz : (x : Int) < k := by omega
        have hxh : x < (heads m).length := by rw [← HNH.out]; exact hxk
        obtain ⟨S, hS⟩ : ∃ S : ByteArray, S = ⟨(sliceB l (heads m) x).toArray⟩ := ⟨_, rfl⟩
        rw [(sliE_in (l := l) (m := m) H0.out hxh).1, (sliE_in (l := l) (m := m) H0.out hxh).2, errV_zero, ← hS] at HSL
        have HE2 := HER0
        obtain ⟨c1, c2, c3⟩ := HC3.out w9 x hxk J9.out
        simp only [stOf] at c2 c3
        obtain ⟨b0, hb0⟩ : ∃ b0, b0 = beg l (heads m) x := ⟨_, rfl⟩
        obtain ⟨b1, hb1⟩ : ∃ b1, b1 = beg l (heads m) (x + 1) := ⟨_, rfl⟩
        rw [← hb0] at c2 c3
        rw [← hb1] at c3
        obtain ⟨T, hT⟩ : ∃ T : ByteArray, T = ⟨(text l).toArray⟩ := ⟨_, rfl⟩
        have hTs : T.size = (text l).length := by rw [hT]; rfl
        have h3a : b0 ≤ b1 := by rw [hb0, hb1]; exact beg_mono HRI.out.1 HRI.out.2 (Nat.le_succ x)
        have h3b : b1 ≤ T.size := by rw [hTs, hb1]; exact HBG.out _
        have h3c : T.size ≤ 300 := by rw [hTs]; exact HTL.out
        have h3z : (b0 : Int) ≤ b1 := by omega
        have h3y : (b1 : Int) ≤ T.size := by omega
        obtain ⟨d, hd⟩ : ∃ d : Int, d = (b1 : Int) - b0 := ⟨_, rfl⟩
        rw [← hd] at c3
        have hw : IntKind.i64.wrap ((b0 : Int) + d) = (b1 : Int) := by rw [hd, show (b0 : Int) + (b1 - b0) = b1 by omega]; exact wrap_in3 (by omega) (by omega)
        have hSE : T.extract b0 b1 = S := by rw [hT, hb0, hb1, hS]; exact cut_slice l _ x
        rw [← hT] at HTR
        rw [← hSE] at HSL
        have hss : ((T.extract b0 b1).toList == (T.extract b0 b1).toList) = true := by simp
        have HSE : Hid (T.extract b0 b1 = S) := hSE
        clear hin hxh hS hb0 hb1 hT hTs hd c1 hSE
        go_wp2_with fail
        go_region_held3 (fun W => W.cell? ⟨b, o + x * 3 + 1, none⟩ = some (.int .i64 (b0 : Int)) ∧ W.cell? ⟨b, o + x * 3 + 2, none⟩ = some (.int .i64 d)) (first | (go_keep; done) | (refine ⟨keep_cellN hb7 ?_, keep_cellN hb7 ?_⟩ <;> (go_split_ands; assumption))) (first
          | (go_at_call 17; refine (HTR.out _ (by first | exact K9.out.drew | exact K9.out)).mono ?_; rintro e w10 ⟨rfl, hb7⟩; have K10 : Hid (Below w.heap.size w w10) := bel (by first | exact K9.out.drew | exact K9.out) hb7; have J10 : Hid (Below w3.heap.size w3 w10) := bel (by first | exact J9.out.drew | exact J9.out) hb7))
        clear hb7
        go_wp2_with fail
        refine (HSL.out w10 K10.out).mono ?_
        rintro e w11 ⟨rfl, hb11⟩
        have K11 : Hid (Below w.heap.size w w11) := bel K10.out hb11
        have J11 : Hid (Below w3.heap.size w3 w11) := bel J10.out hb11
        clear hb11
        go_wp2_with fail
        refine (HE2.out w11 K11.out).mono ?_
        rintro e w12 ⟨rfl, hb12⟩
        have K12 : Hid (Below w.heap.size w w12) := bel K11.out hb12
        have J12 : Hid (Below w3.heap.size w3 w12) := bel J11.out hb12
        clear hb12
        go_wp2_with fail
        refine (HPR.out w12).mono ?_
        rintro e w13 ⟨rfl, rfl⟩
        go_wp2_with fail
        go_loopw [27, 28] (fun v1 v2 wr => v1 = .int .i64 0 ∧ v2 = .int .i64 0 ∧ w13 = wr) (fun _ _ _ => 0)
        case atStart => exact ⟨rfl, rfl, rfl⟩
        case round =>
          obtain ⟨rfl, rfl, rfl⟩ := hrel
          go_wp2_with fail
          refine (HOF.out w13 K12.out).mono ?_
          rintro e w14 ⟨rfl, hb14⟩
          have K14 : Hid (Below w.heap.size w w14) := bel K12.out hb14
          clear hb14
          go_wp2_with fail
          refine (HERC.out w14 K14.out).mono ?_
          rintro e w15 ⟨rfl, hb15⟩
          have K15 : Hid (Below w.heap.size w w15) := bel K14.out hb15
          clear hb15
          go_wp2_with fail
          go_ret
          exact ⟨rfl, K15.out⟩
      · have hout : ¬ (0 ≤ i ∧ i < (heads m).length) := by rw [← HNH.out]; exact hin
        rw [(sliE_out (l := l) (m := m) H0.out hout).1, (sliE_out (l := l) (m := m) H0.out hout).2] at HSL
        have HE2 : Hid (∀ W, Below w.heap.size w W → Calls Tryd.prog 14 #[errV 1, .int .i64 1] W fun e w' => e = .returned (.bool true) ∧ Below W.heap.size W w') := fun W hb => HER.out W 1 hb
        obtain ⟨E2, hE2⟩ : ∃ E2, E2 = errV 1 := ⟨_, rfl⟩
        rw [← hE2] at HSL HE2
        have K10 := K9
        have J10 := J9
        have hss : ((⟨#[]⟩ : ByteArray).toList == (⟨#[]⟩ : ByteArray).toList) = true := by simp
        clear hE2 hout
        by_cases hi0 : i < 0
        · clear hin
          go_wp2_with fail
          refine (HSL.out w9 K10.out).mono ?_
          rintro e w11 ⟨rfl, hb11⟩
          have K11 : Hid (Below w.heap.size w w11) := bel K10.out hb11
          have J11 : Hid (Below w3.heap.size w3 w11) := bel J10.out hb11
          clear hb11
          go_wp2_with fail
          refine (HE2.out w11 K11.out).mono ?_
          rintro e w12 ⟨rfl, hb12⟩
          have K12 : Hid (Below w.heap.size w w12) := bel K11.out hb12
          have J12 : Hid (Below w3.heap.size w3 w12) := bel J11.out hb12
          clear hb12
          go_wp2_with fail
          refine (HPR.out w12).mono ?_
          rintro e w13 ⟨rfl, rfl⟩
          go_wp2_with fail
          go_loopw [27, 28] (fun v1 v2 wr => v1 = .int .i64 0 ∧ v2 = .int .i64 0 ∧ w13 = wr) (fun _ _ _ => 0)
          case atStart => exact ⟨rfl, rfl, rfl⟩
          case round =>
            obtain ⟨rfl, rfl, rfl⟩ := hrel
            go_wp2_with fail
            refine (HOF.out w13 K12.out).mono ?_
            rintro e w14 ⟨rfl, hb14⟩
            have K14 : Hid (Below w.heap.size w w14) := bel K12.out hb14
            clear hb14
            go_wp2_with fail
            refine (HERC.out w14 K14.out).mono ?_
            rintro e w15 ⟨rfl, hb15⟩
            have K15 : Hid (Below w.heap.size w w15) := bel K14.out hb15
            clear hb15
            go_wp2_with fail
            go_ret
            exact ⟨rfl, K15.out⟩
        · have hi1 : (k : Int) ≤ i := by omega
          clear hin
          go_wp2_with fail
          refine (HSL.out w9 K10.out).mono ?_
          rintro e w11 ⟨rfl, hb11⟩
          have K11 : Hid (Below w.heap.size w w11) := bel K10.out hb11
          have J11 : Hid (Below w3.heap.size w3 w11) := bel J10.out hb11
          clear hb11
          go_wp2_with fail
          refine (HE2.out w11 K11.out).mono ?_
          rintro e w12 ⟨rfl, hb12⟩
          have K12 : Hid (Below w.heap.size w w12) := bel K11.out hb12
          have J12 : Hid (Below w3.heap.size w3 w12) := bel J11.out hb12
          clear hb12
          go_wp2_with fail
          refine (HPR.out w12).mono ?_
          rintro e w13 ⟨rfl, rfl⟩
          go_wp2_with fail
          go_loopw [27, 28] (fun v1 v2 wr => v1 = .int .i64 0 ∧ v2 = .int .i64 0 ∧ w13 = wr) (fun _ _ _ => 0)
          case atStart => exact ⟨rfl, rfl, rfl⟩
          case round =>
            obtain ⟨rfl, rfl, rfl⟩ := hrel
            go_wp2_with fail
            refine (HOF.out w13 K12.out).mono ?_
            rintro e w14 ⟨rfl, hb14⟩
            have K14 : Hid (Below w.heap.size w w14) := bel K12.out hb14
            clear hb14
            go_wp2_with fail
            refine (HERC.out w14 K14.out).mono ?_
            rintro e w15 ⟨rfl, hb15⟩
            have K15 : Hid (Below w.heap.size w w15) := bel K14.out hb15
            clear hb15
            go_wp2_with fail
            go_ret
            exact ⟨rfl, K15.out⟩

end Sn
end Go.Proofs.YtllcmfbkingfdaaDoor
