/- What grow of package place answers: of all texts with one letter more those that are stems, and those that may grow, in order, in new memory. -/
import Derived.Test.YtekcjhembcdgfaaPb
import Derived.Test.YtekcjhembcdgfaaPn
import Derived.Maps.AppendAt
namespace Go.Proofs.Ytekcjhembcdgfaa
namespace Pc
set_option linter.unusedVariables false
open Go.ChangeShapes Go.WideShapes Go.ChangeAt Go.RowKit Pa Pb

/- a text as a value -/
def S (l : List UInt8) : Value := .string ⟨l.toArray⟩
theorem info9 : (Try.prog.info? 9).map (fun i => (i.zero, i.size, i.bytes)) = some (some (.string ByteArray.empty), 1, 16) := by kernel_rfl

/- two rows of texts of the call's own, apart from each other -/
def R (B : Nat) (w : World) (xs ys : List (List UInt8)) (v1 v2 : Value) (wr : World) : Prop :=
  wr.ownsRow B 9 1 v1 xs.length (xs.map S) ∧ wr.ownsRow B 9 1 v2 ys.length (ys.map S) ∧ (v1.ownBlock = none ∨ v1.ownBlock ≠ v2.ownBlock) ∧ Below B w wr ∧ B ≤ wr.heap.size

theorem R.start (w : World) : R w.heap.size w [] [] (.slice none 0 0) (.slice none 0 0) w :=
  ⟨World.ownsRow_nil _ _ _ _, World.ownsRow_nil _ _ _ _, Or.inl rfl, Below.refl _ _, Nat.le_refl _⟩

theorem apart_symm {v1 v2 : Value} (h : v1.ownBlock = none ∨ v1.ownBlock ≠ v2.ownBlock) : v2.ownBlock = none ∨ v2.ownBlock ≠ v1.ownBlock := by
  rcases h with h | h
  · cases h2 : v2.ownBlock with
    | none => exact Or.inl rfl
    | some x => exact Or.inr (by rw [h]; simp)
  · exact Or.inr (Ne.symm h)

theorem R.one {B : Nat} {w wr w1 : World} {xs ys : List (List UInt8)} {v1 v2 v' : Value} {o : Obj} {t : List UInt8} (h : R B w xs ys v1 v2 wr)
    (hown : w1.ownsRow B 9 1 v' (xs.length + 1) (xs.map S ++ [S t])) (hg : (wr.alloc o).grownBy w1 v1.ownBlock)
    (hat : v'.ownBlock = v1.ownBlock ∨ v'.ownBlock = some (wr.alloc o).heap.size) : R B w (xs ++ [t]) ys v' v2 w1 := by
  obtain ⟨h1, h2, h3, h4, h5⟩ := h
  have hs : wr.heap.size + 1 ≤ w1.heap.size := by have := hg.size; simpa using this
  have hsz : (wr.alloc o).heap.size = wr.heap.size + 1 := by simp
  rw [hsz] at hat
  refine ⟨by simpa using hown, (h2.alloc o).kept hg (apart_symm h3), ?_, (h4.alloc h5 o).grown hg (by simp; omega) (fun j hj => (h1.lt j hj).1), by omega⟩
  rcases hat with hat | hat
  · rw [hat]; exact h3
  · right; rw [hat]; intro e
    have := (h2.lt _ e.symm).2
    omega

theorem R.two {B : Nat} {w wr w1 : World} {xs ys : List (List UInt8)} {v1 v2 v' : Value} {o : Obj} {t : List UInt8} (h : R B w xs ys v1 v2 wr)
    (hown : w1.ownsRow B 9 1 v' (ys.length + 1) (ys.map S ++ [S t])) (hg : (wr.alloc o).grownBy w1 v2.ownBlock)
    (hat : v'.ownBlock = v2.ownBlock ∨ v'.ownBlock = some (wr.alloc o).heap.size) : R B w xs (ys ++ [t]) v1 v' w1 := by
  obtain ⟨h1, h2, h3, h4, h5⟩ := h
  have hs : wr.heap.size + 1 ≤ w1.heap.size := by have := hg.size; simpa using this
  have hsz : (wr.alloc o).heap.size = wr.heap.size + 1 := by simp
  rw [hsz] at hat
  refine ⟨(h1.alloc o).kept hg h3, by simpa using hown, ?_, (h4.alloc h5 o).grown hg (by simp; omega) (fun j hj => (h2.lt j hj).1), by omega⟩
  rcases hat with hat | hat
  · rw [hat]; exact h3
  · cases hv : v1.ownBlock with
    | none => exact Or.inl rfl
    | some x =>
      right; rw [hat]; intro e
      have := (h1.lt x hv).2
      simp at e; omega

theorem enc_letter (c : Int) (j : Nat) (h : c = 97 + j) (hj : j < 26) : Utf8.encode c = ⟨#[UInt8.ofNat (97 + j)]⟩ := by
  subst h
  have hv : Utf8.valid (97 + (j : Int)) = true := by unfold Utf8.valid; simp; omega
  unfold Utf8.encode
  simp only [hv, if_true]
  have : (97 + (j : Int)).toNat = 97 + j := by omega
  rw [this, if_pos (by omega)]

theorem add_letter (h : List UInt8) (x : UInt8) : (⟨h.toArray⟩ : ByteArray) ++ ⟨#[x]⟩ = ⟨(h ++ [x]).toArray⟩ := by
  have := ByteArray.mk_append_mk h [x]
  simpa using this

theorem filter_yes {p : List UInt8 → Bool} {l : List (List UInt8)} {t : List UInt8} (h : p t = true) : (l ++ [t]).filter p = l.filter p ++ [t] := by simp [h]
theorem filter_no {p : List UInt8 → Bool} {l : List (List UInt8)} {t : List UInt8} (h : p t = false) : (l ++ [t]).filter p = l.filter p := by simp [h]

set_option maxHeartbeats 1600000 in
set_option maxRecDepth 100000 in
theorem grow_some (ob cap : Nat) (os : List (List UInt8)) (a b : ByteArray) (w : World) (ha : a.size ≤ maxLen) (hb : b.size ≤ maxLen)
    (hl : os.length ≤ 1000000) (hz : ∀ k, k < os.length → (os.getD k []).length ≤ 100)
    (hc : ∀ k, k < os.length → w.cell? ⟨ob, k, none⟩ = some (S (os.getD k []))) (hob : ob < w.heap.size) :
    Calls Try.prog 15 #[.slice (some ⟨ob, 0, none⟩) os.length cap, .string a, .string b] w fun e w' =>
      ∃ v1 v2, e = .returned (.tuple #[v1, v2]) ∧ R w.heap.size w (Pm.stems os a.toList b.toList) (Pm.longer os a.toList b.toList) v1 v2 w' := by
  obtain ⟨i0, hi, hz0, hz1, hz2⟩ := info_parts info9
  go_enter Try.func15, Try.ntmps15
  go_wp2
  go_loopw [6, 7, 14] (fun v1 v2 i wr => ∃ k : Nat, k ≤ os.length ∧ i = .int .i64 k ∧ R w.heap.size w ((Pm.cand os k 0).filter fun t => Pm.stem t a.toList b.toList) ((Pm.cand os k 0).filter fun t => Pm.may t a.toList b.toList) v1 v2 wr) (fun _ _ i _ => os.length - (intOf i).toNat)
  case atStart => exact ⟨0, Nat.zero_le _, rfl, by rw [Pm.cand_start]; exact R.start w⟩
  case round =>
    obtain ⟨k, hk, rfl, hR⟩ := hrel
    by_cases hlt : k < os.length
    · have hcx : wr.cell? ⟨ob, k, none⟩ = some (S (os.getD k [])) := (hR.2.2.2.1.cell hob).trans (hc k hlt)
      have hzk := hz k hlt
      obtain ⟨hd, hh0⟩ : ∃ hd, hd = os.getD k [] := ⟨_, rfl⟩
      have HH0 : Hid (hd = os.getD k []) := hh0
      rw [← hh0] at hcx hzk
      clear hh0 hc hz
      unfold S at hcx
      obtain ⟨hh, hhs⟩ : ∃ hh : ByteArray, hh = ⟨hd.toArray⟩ := ⟨_, rfl⟩
      have hhl : hh.size ≤ 100 := by rw [hhs]; exact hzk
      rw [← hhs] at hcx
      have HH : Hid (hh = ⟨hd.toArray⟩) := hhs
      clear hhs
      go_wp2
      go_loopw [6, 7, 10] (fun v1 v2 i ws => ∃ c : Int, ∃ j : Nat, Hid (c = 97 + j) ∧ 97 ≤ c ∧ c ≤ 123 ∧ i = .int .i32 c ∧ R w.heap.size w ((Pm.cand os k j).filter fun t => Pm.stem t a.toList b.toList) ((Pm.cand os k j).filter fun t => Pm.may t a.toList b.toList) v1 v2 ws) (fun _ _ i _ => 123 - (intOf i).toNat)
      case atStart => exact ⟨97, 0, rfl, by omega, by omega, rfl, hR⟩
      case round =>
        obtain ⟨c, j, Hc, hj0, hj, rfl, hRj⟩ := hrel
        by_cases hjt : c ≤ 122
        · have hj26 : j < 26 := by have := Hc.out; omega
          have HX0 : Hid (Utf8.encode c = ⟨#[UInt8.ofNat (97 + j)]⟩) := enc_letter c j Hc.out hj26
          obtain ⟨X, hX⟩ : ∃ X : ByteArray, Utf8.encode c = X := ⟨_, rfl⟩
          have HX : Hid (X = ⟨#[UInt8.ofNat (97 + j)]⟩) := by unfold Hid; rw [← hX]; exact HX0.out
          have hXs : X.size = 1 := by rw [HX.out]; rfl
          have HT : Hid (hh ++ X = ⟨(hd ++ [UInt8.ofNat (97 + j)]).toArray⟩) := by unfold Hid; rw [HX.out, HH.out, add_letter]
          have hTs : (hh ++ X).size = hh.size + 1 := by rw [ByteArray.size_append, hXs]
          have HTl : Hid ((hh ++ X).toList = hd ++ [UInt8.ofNat (97 + j)]) := by unfold Hid; rw [HT.out, ByteArray.toList_mk]
          have HS : Hid (Value.string (hh ++ X) = S (hd ++ [UInt8.ofNat (97 + j)])) := by unfold Hid S; rw [HT.out]
          have hcl := Pm.cand_le os k j
          have hsl : ((Pm.cand os k j).filter fun t => Pm.stem t a.toList b.toList).length ≤ 26 * k + j := Nat.le_trans (List.length_filter_le _ _) hcl
          have hml : ((Pm.cand os k j).filter fun t => Pm.may t a.toList b.toList).length ≤ 26 * k + j := Nat.le_trans (List.length_filter_le _ _) hcl
          have hm1 : (hh ++ X).size ≤ maxLen := by rw [hTs]; unfold maxLen; omega
          have hm0 : 0 < (hh ++ X).size := by rw [hTs]; omega
          have HCS : Hid (Pm.cand os k (j + 1) = Pm.cand os k j ++ [hd ++ [UInt8.ofNat (97 + j)]]) := by
            unfold Hid; rw [Pm.cand_step os k j hj26, HH0.out]
          cases h1 : Pm.stem (hh ++ X).toList a.toList b.toList <;> cases h2 : Pm.may (hh ++ X).toList a.toList b.toList
          case false.false =>
            have H1 : Hid (Pm.stem (hh ++ X).toList a.toList b.toList = false) := h1
            have H2 : Hid (Pm.may (hh ++ X).toList a.toList b.toList = false) := h2
            have HF1 : Hid (Pm.stem (hd ++ [UInt8.ofNat (97 + j)]) a.toList b.toList = false) := by unfold Hid; rw [← HTl.out]; exact h1
            have HF2 : Hid (Pm.may (hd ++ [UInt8.ofNat (97 + j)]) a.toList b.toList = false) := by unfold Hid; rw [← HTl.out]; exact h2
            clear h1 h2
            go_wp2_with (first | (go_at_call 16; refine (isStem_any _ _ _ _ hm0 hm1 hb).mono ?_; rintro e w' ⟨rfl, hw⟩; have hw2 := hw.symm; subst hw2; clear hw; rw [H1.out]) | (go_at_call 17; refine (mayGrow_any _ _ _ _ hm1 ha).mono ?_; rintro e w' ⟨rfl, hw⟩; have hw2 := hw.symm; subst hw2; clear hw; rw [H2.out]))
            go_roundw
            case rel => exact ⟨c + 1, j + 1, by have := Hc.out; unfold Hid; omega, by omega, by omega, rfl, by rw [HCS.out, filter_no (p := fun t => Pm.stem t a.toList b.toList) HF1.out, filter_no (p := fun t => Pm.may t a.toList b.toList) HF2.out]; exact hRj⟩
            case measure => simp [intOf]; omega
          case false.true =>
            have H1 : Hid (Pm.stem (hh ++ X).toList a.toList b.toList = false) := h1
            have H2 : Hid (Pm.may (hh ++ X).toList a.toList b.toList = true) := h2
            have HF1 : Hid (Pm.stem (hd ++ [UInt8.ofNat (97 + j)]) a.toList b.toList = false) := by unfold Hid; rw [← HTl.out]; exact h1
            have HF2 : Hid (Pm.may (hd ++ [UInt8.ofNat (97 + j)]) a.toList b.toList = true) := by unfold Hid; rw [← HTl.out]; exact h2
            clear h1 h2
            go_wp2_with (first | (go_at_call 16; refine (isStem_any _ _ _ _ hm0 hm1 hb).mono ?_; rintro e w' ⟨rfl, hw⟩; have hw2 := hw.symm; subst hw2; clear hw; rw [H1.out]) | (go_at_call 17; refine (mayGrow_any _ _ _ _ hm1 ha).mono ?_; rintro e w' ⟨rfl, hw⟩; have hw2 := hw.symm; subst hw2; clear hw; rw [H2.out]) | (at_builtin; refine wpList_append_own_at _ rfl (.tmp 38) (.tmp 40) 22 rfl w.heap.size 9 i0 (.string ByteArray.empty) 1 16 Try.underlying22 hi hz0 hz1 hz2 rfl (by decide) u7 _ _ rfl (hRj.2.1.alloc _) ⟨wr.heap.size, 0, none⟩ 1 1 [.string (hh ++ X)] rfl rfl (cell_one_new _ _ _) (by intro u hu; simp at hu; subst hu; rfl) (by unfold maxLen; omega) (by omega) (by have := hRj.2.2.2.2; simp; omega) ?_; intro v' w1 hown' hgrow _ hat; have R2 := hRj.two (t := hd ++ [UInt8.ofNat (97 + j)]) (by rw [← HS.out]; exact hown') hgrow hat; clear hown' hgrow hat))
            go_roundw
            case rel => exact ⟨c + 1, j + 1, by have := Hc.out; unfold Hid; omega, by omega, by omega, rfl, by rw [HCS.out, filter_no (p := fun t => Pm.stem t a.toList b.toList) HF1.out, filter_yes (p := fun t => Pm.may t a.toList b.toList) HF2.out]; exact R2⟩
            case measure => simp [intOf]; omega
          case true.false =>
            exact absurd h2 (by have := Pm.stem_may h1; rw [this]; decide)
          case true.true =>
            have H1 : Hid (Pm.stem (hh ++ X).toList a.toList b.toList = true) := h1
            have H2 : Hid (Pm.may (hh ++ X).toList a.toList b.toList = true) := h2
            have HF1 : Hid (Pm.stem (hd ++ [UInt8.ofNat (97 + j)]) a.toList b.toList = true) := by unfold Hid; rw [← HTl.out]; exact h1
            have HF2 : Hid (Pm.may (hd ++ [UInt8.ofNat (97 + j)]) a.toList b.toList = true) := by unfold Hid; rw [← HTl.out]; exact h2
            clear h1 h2
            go_wp2_with (first | (go_at_call 16; refine (isStem_any _ _ _ _ hm0 hm1 hb).mono ?_; rintro e w' ⟨rfl, hw⟩; have hw2 := hw.symm; subst hw2; clear hw; rw [H1.out]) | (go_at_call 17; refine (mayGrow_any _ _ _ _ hm1 ha).mono ?_; rintro e w' ⟨rfl, hw⟩; have hw2 := hw.symm; subst hw2; clear hw; rw [H2.out]) | (at_builtin; refine wpList_append_own_at _ rfl (.tmp 30) (.tmp 32) 22 rfl w.heap.size 9 i0 (.string ByteArray.empty) 1 16 Try.underlying22 hi hz0 hz1 hz2 rfl (by decide) u6 _ _ rfl (hRj.1.alloc _) ⟨wr.heap.size, 0, none⟩ 1 1 [.string (hh ++ X)] rfl rfl (cell_one_new _ _ _) (by intro u hu; simp at hu; subst hu; rfl) (by unfold maxLen; omega) (by omega) (by have := hRj.2.2.2.2; simp; omega) ?_; intro v' w1 hown' hgrow _ hat; have R1 := hRj.one (t := hd ++ [UInt8.ofNat (97 + j)]) (by rw [← HS.out]; exact hown') hgrow hat; clear hown' hgrow hat) | (at_builtin; refine wpList_append_own_at _ rfl (.tmp 38) (.tmp 40) 22 rfl w.heap.size 9 i0 (.string ByteArray.empty) 1 16 Try.underlying22 hi hz0 hz1 hz2 rfl (by decide) u7 _ _ rfl (R1.2.1.alloc _) ⟨w1.heap.size, 0, none⟩ 1 1 [.string (hh ++ X)] rfl rfl (cell_one_new _ _ _) (by intro u hu; simp at hu; subst hu; rfl) (by unfold maxLen; omega) (by omega) (by have := R1.2.2.2.2; simp; omega) ?_; intro v'' w2 hown' hgrow _ hat; have R2 := R1.two (t := hd ++ [UInt8.ofNat (97 + j)]) (by rw [← HS.out]; exact hown') hgrow hat; clear hown' hgrow hat))
            go_roundw
            case rel => exact ⟨c + 1, j + 1, by have := Hc.out; unfold Hid; omega, by omega, by omega, rfl, by rw [HCS.out, filter_yes (p := fun t => Pm.stem t a.toList b.toList) HF1.out, filter_yes (p := fun t => Pm.may t a.toList b.toList) HF2.out]; exact R2⟩
            case measure => simp [intOf]; omega
        · have hj26 : j = 26 := by have := Hc.out; omega
          subst hj26
          have HCR : Hid (Pm.cand os k 26 = Pm.cand os (k + 1) 0) := Pm.cand_row os k hlt
          go_wp2
          go_roundw
          case rel => exact ⟨k + 1, by omega, by go_num, by rw [← HCR.out]; exact hRj⟩
          case measure => simp [intOf]; omega
    · have hkn : k = os.length := by omega
      have HE : Hid (Pm.cand os k 0 = Pm.exts os) := by unfold Hid; rw [hkn]; exact Pm.cand_end os
      clear hkn
      go_wp2
      go_ret2
      refine ⟨_, _, rfl, ?_⟩
      rw [HE.out] at hR
      exact hR

end Pc
end Go.Proofs.Ytekcjhembcdgfaa
