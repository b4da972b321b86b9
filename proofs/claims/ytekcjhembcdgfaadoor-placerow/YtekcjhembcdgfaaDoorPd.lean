/- What shortestStems of package place answers: the stems that the search finds, in new memory; or ErrDeep. -/
import Derived.Test.YtekcjhembcdgfaaDoorPc
import Derived.Test.YtekcjhembcdgfaaDoorPo
namespace Go.Proofs.YtekcjhembcdgfaaDoor
namespace Pd
set_option linter.unusedVariables false
open Go.ChangeShapes Go.WideShapes Go.ChangeAt Go.RowKit Pa Pb Pc

theorem own_mono {w : World} {B B' : Nat} {v : Value} {n : Nat} {xs : List Value} (h : w.ownsRow B 9 1 v n xs) (hB : B' ≤ B) : w.ownsRow B' 9 1 v n xs := by
  refine ⟨h.1, ?_⟩
  rcases h.2 with h2 | ⟨g, cap, cur, h2, h3, h4⟩
  · exact .inl h2
  · exact .inr ⟨g, cap, cur, h2, by omega, h4⟩

set_option maxHeartbeats 400000 in
theorem grow_nil (a b : ByteArray) (w : World) :
    Calls Tryd.prog 42 #[.slice none 0 0, .string a, .string b] w fun e w' =>
      ∃ v1 v2, e = .returned (.tuple #[v1, v2]) ∧ R w.heap.size w [] [] v1 v2 w' := by
  go_enter Tryd.func42, Tryd.ntmps42
  go_wp2
  refine wp_loop_rounds 1 ?_
  rw [rounds_succ]
  go_wp2
  go_ret2
  exact ⟨_, _, rfl, R.start w⟩

theorem grow_any (B : Nat) (v : Value) (os : List (List UInt8)) (a b : ByteArray) (w : World) (ha : a.size ≤ maxLen) (hb : b.size ≤ maxLen)
    (hl : os.length ≤ 1000000) (hz : ∀ t ∈ os, t.length ≤ 100) (hown : w.ownsRow B 9 1 v os.length (os.map S)) :
    Calls Tryd.prog 42 #[v, .string a, .string b] w fun e w' =>
      ∃ v1 v2, e = .returned (.tuple #[v1, v2]) ∧ R w.heap.size w (Pm.stems os a.toList b.toList) (Pm.longer os a.toList b.toList) v1 v2 w' := by
  rcases hown.2 with ⟨rfl, h0⟩ | ⟨g, cap, cur, rfl, _, hg, _⟩
  · have : os = [] := List.eq_nil_of_length_eq_zero h0
    subst this
    exact grow_nil a b w
  · refine grow_some g cap os a b w ha hb hl ?_ ?_ ?_
    · intro k hk
      have e : os.getD k [] = os[k] := by rw [List.getD_eq_getElem?_getD, List.getElem?_eq_getElem hk]; rfl
      rw [e]
      exact hz _ (List.getElem_mem hk)
    · intro k hk
      have e : os.getD k [] = os[k] := by rw [List.getD_eq_getElem?_getD, List.getElem?_eq_getElem hk]; rfl
      rw [e]
      have := hown.cells (g := g) rfl k (S os[k]) (by rw [List.getElem?_map, List.getElem?_eq_getElem hk]; rfl)
      have e2 : (⟨g, 0, none⟩ : Addr).add k = ⟨g, k, none⟩ := by
        unfold Addr.add
        by_cases h : k = 0 <;> simp [h]
      rw [e2] at this
      exact this
    · rcases Nat.lt_or_ge g w.heap.size with h | h
      · exact h
      · rw [Array.getElem?_eq_none h] at hg; cases hg

theorem checkSides_ok (a b : ByteArray) (w : World) (ha : a.size ≤ maxLen) (hb : b.size ≤ maxLen) (h : Pm.sides a.toList b.toList = 0) :
    Calls Tryd.prog 41 #[.string a, .string b] w fun e w' => e = .returned .nilIface ∧ w' = w := by
  refine (checkSides_any a b w ha hb).mono ?_
  rintro e w' ⟨rfl, rfl⟩
  exact ⟨by rw [errV, if_pos h], rfl⟩
theorem checkSides_bad (a b : ByteArray) (w : World) (ha : a.size ≤ maxLen) (hb : b.size ≤ maxLen) (h : Pm.sides a.toList b.toList ≠ 0) :
    Calls Tryd.prog 41 #[.string a, .string b] w fun e w' => e = .returned (.iface 47 (.int .i64 (Pm.sides a.toList b.toList))) ∧ w' = w := by
  refine (checkSides_any a b w ha hb).mono ?_
  rintro e w' ⟨rfl, rfl⟩
  exact ⟨by rw [errV, if_neg h], rfl⟩

theorem stems_bad (a b : ByteArray) (w : World) (ha : a.size ≤ maxLen) (hb : b.size ≤ maxLen) (h : Pm.sides a.toList b.toList ≠ 0) :
    Calls Tryd.prog 27 #[.string a, .string b] w fun e w' => e = .returned (.tuple #[.slice none 0 0, .iface 47 (.int .i64 (Pm.sides a.toList b.toList))]) ∧ w' = w := by
  have H : Hid (Pm.sides a.toList b.toList ≠ 0) := h
  clear h
  go_enter Tryd.func27, Tryd.ntmps27
  go_wp2_with (go_at_call 41; refine (checkSides_bad _ _ _ ha hb H.out).mono ?_; rintro e w' ⟨rfl, rfl⟩)
  go_ret2
  exact ⟨rfl, rfl⟩

def Found (a b : List UInt8) (w : World) (e : Ending) (w' : World) : Prop :=
  Below w.heap.size w w' ∧
  ((∃ st v, Pm.search a b 11 [[]] = some st ∧ e = .returned (.tuple #[v, .nilIface]) ∧ w'.ownsRow w.heap.size 9 1 v st.length (st.map S)) ∨
   (Pm.search a b 11 [[]] = none ∧ e = .returned (.tuple #[.slice none 0 0, .iface 47 (.int .i64 8)])))

theorem pow_le (k : Nat) (h : k ≤ 11) : 3 ^ k ≤ 177147 := by
  have : 3 ^ k ≤ 3 ^ 11 := Nat.pow_le_pow_right (by omega) h
  simpa using this

set_option maxHeartbeats 1600000 in
set_option maxRecDepth 100000 in
theorem stems_ok (a b : ByteArray) (w : World) (ha : a.size ≤ maxLen) (hb : b.size ≤ maxLen) (h : Pm.sides a.toList b.toList = 0) :
    Calls Tryd.prog 27 #[.string a, .string b] w (Found a.toList b.toList w) := by
  have H : Hid (Pm.sides a.toList b.toList = 0) := h
  clear h
  go_enter Tryd.func27, Tryd.ntmps27
  go_wp2_with (go_at_call 41; refine (checkSides_ok _ _ _ ha hb H.out).mono ?_; rintro e w' ⟨rfl, hw⟩; have hw2 := hw.symm; subst hw2; clear hw)
  go_loopw [7, 8, 16] (fun vo vs i wr => ∃ k : Nat, ∃ os, k ≤ 11 ∧ i = .int .i64 k ∧ os.length ≤ 3 ^ k ∧ Pm.Flat k os ∧ wr.ownsRow w.heap.size 9 1 vo os.length (os.map S) ∧ Below w.heap.size w wr ∧ w.heap.size ≤ wr.heap.size ∧ Hid (Pm.search a.toList b.toList 11 [[]] = Pm.search a.toList b.toList (11 - k) os)) (fun _ _ i _ => 11 - (intOf i).toNat)
  case atStart =>
    refine ⟨0, [[]], by omega, rfl, by simp, Pm.Flat.start, ?_, (Below.refl _ _).alloc (Nat.le_refl _) _, by simp, rfl⟩
    exact ⟨by simp, .inr ⟨w.heap.size, 1, _, rfl, Nat.le_refl _, heap_alloc_new w _, Nat.le_refl _, by unfold maxLen; omega, rfl, rfl⟩⟩
  case round =>
    obtain ⟨k, os, hk, rfl, hlen, hflat, hown, hbel, hsz, HS⟩ := hrel
    by_cases hlt : k < 11
    · have hp := pow_le k hk
      have hz : ∀ t ∈ os, t.length ≤ 100 := fun t ht => by have := (hflat t ht).1; omega
      have HK : Hid (11 - k = (10 - k) + 1) := by unfold Hid; omega
      go_wp2_with fail
      refine (grow_any w.heap.size _ os a b _ ha hb (by omega) hz hown).mono ?_
      rintro e w1 ⟨v1, v2, rfl, hR⟩
      obtain ⟨hR1, hR2, _, hR4, hR5⟩ := hR
      have hb1 : Below w.heap.size w w1 := hbel.trans (hR4.mono hsz)
      have hs1 : w.heap.size ≤ w1.heap.size := Nat.le_trans hsz hR5
      have hR1' := own_mono hR1 hsz
      have hR2' := own_mono hR2 hsz
      have HM : Hid (Pm.stems os a.toList b.toList = [] → Pm.search a.toList b.toList 11 [[]] = Pm.search a.toList b.toList (11 - (k + 1)) (Pm.longer os a.toList b.toList)) := by
        intro h; rw [HS.out, HK.out, Pm.search_miss h, show 11 - (k + 1) = 10 - k from by omega]
      have HHit : Hid (Pm.stems os a.toList b.toList ≠ [] → Pm.search a.toList b.toList 11 [[]] = some (Pm.stems os a.toList b.toList)) := by
        intro h; rw [HS.out, HK.out, Pm.search_hit h]
      have HL : Hid (Pm.stems os a.toList b.toList = [] → (Pm.longer os a.toList b.toList).length ≤ 3 ^ (k + 1)) := by
        intro h; have := Pm.longer_le os a.toList b.toList h; rw [Nat.pow_succ]; omega
      have hfl : Pm.Flat (k + 1) (Pm.longer os a.toList b.toList) := hflat.longer
      obtain ⟨st, hst⟩ : ∃ st, st = Pm.stems os a.toList b.toList := ⟨_, rfl⟩
      obtain ⟨lo, hlo⟩ : ∃ lo, lo = Pm.longer os a.toList b.toList := ⟨_, rfl⟩
      rw [← hst, ← hlo] at HM
      rw [← hst] at HHit
      rw [← hst, ← hlo] at HL
      rw [← hst] at hR1'
      rw [← hlo] at hR2' hfl
      clear hR1 hR2 hst hlo hR4 hR5 hown hflat hlen hz hbel HS HK
      rcases Nat.eq_zero_or_pos st.length with h0 | h0
      · have he : st = [] := List.eq_nil_of_length_eq_zero h0
        have hm := HM.out he
        have HM' : Hid (Pm.search a.toList b.toList 11 [[]] = Pm.search a.toList b.toList (11 - (k + 1)) lo) := hm
        have hl := HL.out he
        clear HM hm HHit HL
        rcases hR1'.2 with ⟨rfl, _⟩ | ⟨g, cap, cur, rfl, _⟩
        · clear hR1' h0 he
          go_wp2_with fail
          go_roundw
          case rel => exact ⟨k + 1, lo, by omega, by go_num, hl, hfl, hR2', hb1, hs1, HM'⟩
          case measure => simp [intOf]; omega
        · rw [h0]
          clear hR1' h0 he
          go_wp2_with fail
          go_roundw
          case rel => exact ⟨k + 1, lo, by omega, by go_num, hl, hfl, hR2', hb1, hs1, HM'⟩
          case measure => simp [intOf]; omega
      · have hne : st ≠ [] := by intro h; rw [h] at h0; simp at h0
        have hh := HHit.out hne
        have HH : Hid (Pm.search a.toList b.toList 11 [[]] = some st) := hh
        clear HM hh HHit HL hne
        rcases hR1'.2 with ⟨rfl, h1⟩ | ⟨g, cap, cur, rfl, _⟩
        · omega
        · go_wp2_with fail
          go_ret2
          exact ⟨hb1, Or.inl ⟨st, _, HH.out, rfl, hR1'⟩⟩
    · have hk11 : k = 11 := by omega
      have HN : Hid (Pm.search a.toList b.toList 11 [[]] = none) := by
        unfold Hid; rw [HS.out, hk11]; rfl
      clear HS hk11
      go_wp2
      go_ret2
      exact ⟨hbel, Or.inr ⟨HN.out, rfl⟩⟩

end Pd
end Go.Proofs.YtekcjhembcdgfaaDoor
