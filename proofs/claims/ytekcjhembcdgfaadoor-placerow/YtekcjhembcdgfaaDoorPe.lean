/- What Room and Between of package place answer, at every input. -/
import Derived.Test.YtekcjhembcdgfaaDoorPd
import Derived.Test.YtekcjhembcdgfaaDoorPq
namespace Go.Proofs.YtekcjhembcdgfaaDoor
namespace Pe
set_option linter.unusedVariables false
open Go.ChangeShapes Go.WideShapes Go.ChangeAt Go.RowKit Pa Pb Pc Pd

/- a row of texts of the call's own, as cells -/
theorem row_cells {w : World} {B : Nat} {v : Value} {st : List (List UInt8)} (h : w.ownsRow B 9 1 v st.length (st.map S)) (hn : 0 < st.length) :
    ∃ g cap, v = .slice (some ⟨g, 0, none⟩) st.length cap ∧ st.length ≤ 9223372036854775807 ∧ ∀ k, k < st.length → w.cell? ⟨g, k, none⟩ = some (S (st.getD k [])) := by
  rcases h.2 with ⟨_, h0⟩ | ⟨g, cap, cur, hv, _, hg, h1, h2, _⟩
  · omega
  · refine ⟨g, cap, hv, by unfold maxLen at h2; omega, ?_⟩
    intro k hk
    have e : st.getD k [] = st[k] := by rw [List.getD_eq_getElem?_getD, List.getElem?_eq_getElem hk]; rfl
    rw [e]
    subst hv
    have := h.cells (g := g) rfl k (S st[k]) (by rw [List.getElem?_map, List.getElem?_eq_getElem hk]; rfl)
    have e2 : (⟨g, 0, none⟩ : Addr).add k = ⟨g, k, none⟩ := by
      unfold Addr.add
      by_cases h : k = 0 <;> simp [h]
    rw [e2] at this
    exact this

set_option maxHeartbeats 400000 in
theorem room_any (a b : ByteArray) (w : World) (ha : a.size ≤ maxLen) (hb : b.size ≤ maxLen) :
    Calls Tryd.prog 13 #[.string a, .string b] w fun e w' => e = .returned (.tuple #[.int .i64 (Pm.roomLen a.toList b.toList), errV (Pm.roomErr a.toList b.toList)]) ∧ Below w.heap.size w w' := by
  by_cases h : Pm.sides a.toList b.toList = 0
  · cases hs : Pm.search a.toList b.toList 11 [[]] with
    | none =>
      have H1 : Hid (Pm.roomLen a.toList b.toList = 0) := by unfold Hid Pm.roomLen; simp [h, hs]
      have H2 : Hid (Pm.roomErr a.toList b.toList = 8) := by unfold Hid Pm.roomErr; simp [h, hs]
      have HS : Hid (Pm.search a.toList b.toList 11 [[]] = none) := hs
      have H : Hid (Pm.sides a.toList b.toList = 0) := h
      clear h hs
      go_enter Tryd.func13, Tryd.ntmps13
      go_wp2_with fail
      refine (stems_ok _ _ _ ha hb H.out).mono ?_
      rintro e w1 ⟨hbel, ⟨st, v, h1, _⟩ | ⟨_, rfl⟩⟩
      · rw [HS.out] at h1; cases h1
      · go_wp2_with fail
        go_ret2
        exact ⟨by rw [H1.out, H2.out]; rfl, hbel⟩
    | some st =>
      obtain ⟨hne, m, hm1, hm2, hfl, _⟩ := Pm.search_found 11 0 [[]] st Pm.Flat.start hs
      have h0 : 0 < st.length := by cases st with
        | nil => exact absurd rfl hne
        | cons _ _ => simp
      have hl : (st.getD 0 []).length ≤ 11 := by
        have e : st.getD 0 [] = st[0] := by rw [List.getD_eq_getElem?_getD, List.getElem?_eq_getElem h0]; rfl
        rw [e]
        have := (hfl _ (List.getElem_mem h0)).1
        omega
      have H1 : Hid (Pm.roomLen a.toList b.toList = ((st.getD 0 []).length : Int) + 1) := by unfold Hid Pm.roomLen; simp [h, hs]
      have H2 : Hid (Pm.roomErr a.toList b.toList = 0) := by unfold Hid Pm.roomErr; simp [h, hs]
      have HS : Hid (Pm.search a.toList b.toList 11 [[]] = some st) := hs
      have H : Hid (Pm.sides a.toList b.toList = 0) := h
      clear h hs hfl
      go_enter Tryd.func13, Tryd.ntmps13
      go_wp2_with fail
      refine (stems_ok _ _ _ ha hb H.out).mono ?_
      rintro e w1 ⟨hbel, ⟨st', v, h1, rfl, hown⟩ | ⟨h1, _⟩⟩
      · rw [HS.out] at h1
        simp only [Option.some.injEq] at h1
        subst h1
        obtain ⟨g, cap, rfl, hmx, hc⟩ := row_cells hown h0
        have hc0 := hc 0 h0
        unfold S at hc0
        generalize hx : st.getD 0 [] = x at hc0 hl H1
        obtain ⟨xb, hxb⟩ : ∃ xb : ByteArray, xb = ⟨x.toArray⟩ := ⟨_, rfl⟩
        have hxs : xb.size = x.length := by rw [hxb]; rfl
        rw [← hxb] at hc0
        have HXS : Hid (xb.size = x.length) := hxs
        have hxl : xb.size ≤ 11 := by omega
        clear hc hx hxb hown hxs
        go_wp2_with fail
        go_ret2
        refine ⟨?_, hbel⟩
        rw [H1.out, H2.out, ← HXS.out]
        rfl
      · rw [HS.out] at h1; cases h1
  · have H1 : Hid (Pm.roomLen a.toList b.toList = 0) := by unfold Hid Pm.roomLen; simp [h]
    have H2 : Hid (Pm.roomErr a.toList b.toList = Pm.sides a.toList b.toList) := by unfold Hid Pm.roomErr; simp [h]
    have H : Hid (Pm.sides a.toList b.toList ≠ 0) := h
    clear h
    go_enter Tryd.func13, Tryd.ntmps13
    go_wp2_with (go_at_call 27; refine (stems_bad _ _ _ ha hb H.out).mono ?_; rintro e w' ⟨rfl, hw⟩; have hw2 := hw.symm; subst hw2; clear hw)
    go_ret2
    exact ⟨by rw [H1.out, H2.out, errV, if_neg H.out]; rfl, Below.refl _ _⟩

set_option maxHeartbeats 400000 in
theorem between_any (a b : ByteArray) (n : Int) (w : World) (ha : a.size ≤ maxLen) (hb : b.size ≤ maxLen) :
    Calls Tryd.prog 15 #[.string a, .string b, .int .i64 n] w fun e w' => e = .returned (.tuple #[S (Pm.betText a.toList b.toList n), errV (Pm.betErr a.toList b.toList n)]) ∧ Below w.heap.size w w' := by
  cases hw : Pm.isWho n with
  | false =>
    have H1 : Hid (Pm.betText a.toList b.toList n = []) := by unfold Hid Pm.betText; simp [hw]
    have H2 : Hid (Pm.betErr a.toList b.toList n = 1) := by unfold Hid Pm.betErr; simp [hw]
    have HW : Hid (Pm.isWho n = false) := hw
    clear hw
    go_enter Tryd.func15, Tryd.ntmps15
    go_wp2_with (go_at_call 23; refine (isAuthor_any _ _).mono ?_; rintro e w' ⟨rfl, hw⟩; have hw2 := hw.symm; subst hw2; clear hw; rw [HW.out])
    go_ret2
    exact ⟨by rw [H1.out, H2.out]; rfl, Below.refl _ _⟩
  | true =>
    have hwho : 1 ≤ n ∧ n ≤ 8 := by simpa [Pm.isWho] using hw
    obtain ⟨hw1, hw8⟩ := hwho
    have HW : Hid (Pm.isWho n = true) := hw
    by_cases h : Pm.sides a.toList b.toList = 0
    · cases hs : Pm.search a.toList b.toList 11 [[]] with
      | none =>
        have H1 : Hid (Pm.betText a.toList b.toList n = []) := by unfold Hid Pm.betText; simp [hw, h, hs]
        have H2 : Hid (Pm.betErr a.toList b.toList n = 8) := by unfold Hid Pm.betErr Pm.roomErr; simp [hw, h, hs]
        have HS : Hid (Pm.search a.toList b.toList 11 [[]] = none) := hs
        have H : Hid (Pm.sides a.toList b.toList = 0) := h
        clear h hs hw
        go_enter Tryd.func15, Tryd.ntmps15
        go_wp2_with (go_at_call 23; refine (isAuthor_any _ _).mono ?_; rintro e w' ⟨rfl, hw⟩; have hw2 := hw.symm; subst hw2; clear hw; rw [HW.out])
        refine (stems_ok _ _ _ ha hb H.out).mono ?_
        rintro e w1 ⟨hbel, ⟨st, v, h1, _⟩ | ⟨_, rfl⟩⟩
        · rw [HS.out] at h1; cases h1
        · go_wp2_with fail
          go_ret2
          exact ⟨by rw [H1.out, H2.out]; rfl, hbel⟩
      | some st =>
        obtain ⟨hne, m, hm1, hm2, hfl, _⟩ := Pm.search_found 11 0 [[]] st Pm.Flat.start hs
        have h0 : 0 < st.length := by cases st with
          | nil => exact absurd rfl hne
          | cons _ _ => simp
        have hq : (st.length - 1) / 4 < st.length := by omega
        have hl : (Pm.pick st).length ≤ 11 := by
          have e : Pm.pick st = st[(st.length - 1) / 4] := by unfold Pm.pick; rw [List.getD_eq_getElem?_getD, List.getElem?_eq_getElem hq]; rfl
          rw [e]
          have := (hfl _ (List.getElem_mem hq)).1
          omega
        have H1 : Hid (Pm.betText a.toList b.toList n = Pm.pick st ++ [UInt8.ofNat (97 + n.toNat)]) := by unfold Hid Pm.betText; simp [hw, h, hs]
        have H2 : Hid (Pm.betErr a.toList b.toList n = 0) := by unfold Hid Pm.betErr Pm.roomErr; simp [hw, h, hs]
        have HS : Hid (Pm.search a.toList b.toList 11 [[]] = some st) := hs
        have H : Hid (Pm.sides a.toList b.toList = 0) := h
        clear h hs hfl hw
        go_enter Tryd.func15, Tryd.ntmps15
        go_wp2_with (go_at_call 23; refine (isAuthor_any _ _).mono ?_; rintro e w' ⟨rfl, hw⟩; have hw2 := hw.symm; subst hw2; clear hw; rw [HW.out])
        refine (stems_ok _ _ _ ha hb H.out).mono ?_
        rintro e w1 ⟨hbel, ⟨st', v, h1, rfl, hown⟩ | ⟨h1, _⟩⟩
        · rw [HS.out] at h1
          simp only [Option.some.injEq] at h1
          subst h1
          obtain ⟨g, cap, rfl, hmx, hc⟩ := row_cells hown h0
          have hc0 := hc _ hq
          unfold S at hc0
          have hc1 : w1.cell? ⟨g, (st.length - 1) / 4, none⟩ = some (.string ⟨(Pm.pick st).toArray⟩) := hc0
          generalize hx : Pm.pick st = x at hc1 hl H1
          obtain ⟨xb, hxb⟩ : ∃ xb : ByteArray, xb = ⟨x.toArray⟩ := ⟨_, rfl⟩
          have hxl : xb.size ≤ 11 := by rw [hxb]; exact hl
          rw [← hxb] at hc1
          have HXB : Hid (xb = ⟨x.toArray⟩) := hxb
          obtain ⟨X, hX⟩ : ∃ X : ByteArray, Utf8.encode (97 + n) = X := ⟨_, rfl⟩
          have HX : Hid (X = ⟨#[UInt8.ofNat (97 + n.toNat)]⟩) := by
            unfold Hid; rw [← hX]; exact enc_letter (97 + n) n.toNat (by omega) (by omega)
          have hXs : X.size = 1 := by rw [HX.out]; rfl
          clear hc hc0 hx hxb hown
          go_wp2_with fail
          go_ret2
          refine ⟨?_, hbel⟩
          rw [H1.out, H2.out, S, ← add_letter, ← HXB.out, ← HX.out]
          rfl
        · rw [HS.out] at h1; cases h1
    · have H1 : Hid (Pm.betText a.toList b.toList n = []) := by unfold Hid Pm.betText; simp [h]
      have H2 : Hid (Pm.betErr a.toList b.toList n = Pm.sides a.toList b.toList) := by unfold Hid Pm.betErr Pm.roomErr; simp [h, hw]
      have H : Hid (Pm.sides a.toList b.toList ≠ 0) := h
      clear h hw
      go_enter Tryd.func15, Tryd.ntmps15
      go_wp2_with (first | (go_at_call 23; refine (isAuthor_any _ _).mono ?_; rintro e w' ⟨rfl, hw⟩; have hw2 := hw.symm; subst hw2; clear hw; rw [HW.out]) | (go_at_call 27; refine (stems_bad _ _ _ ha hb H.out).mono ?_; rintro e w' ⟨rfl, hw⟩; have hw2 := hw.symm; subst hw2; clear hw))
      go_ret2
      exact ⟨by rw [H1.out, H2.out, errV, if_neg H.out]; rfl, Below.refl _ _⟩

end Pe
end Go.Proofs.YtekcjhembcdgfaaDoor
