/- The reference's texts kept: Find, Used, Off, Load. -/
import Derived.Test.YtekmdkfbdcamdaaDoorFw
import Derived.Test.YtekmdkfbdcamdaaDoorFl
import Derived.Deep.DeepCutAuto
namespace Go.Proofs.YtekmdkfbdcamdaaDoor
namespace Fx
set_option linter.unusedVariables false
set_option linter.unusedSimpArgs false
open Go.ChangeShapes Go.WideShapes Go.ChangeAt Go.RowKit Ka Kb Ef Fw
open Fb (Kp names get? off used trim Inv loadC)
open Fl (findI erase_eq find_get)

theorem Hid.mk' {p : Prop} (h : p) : Hid p := h
def findZ (p : ByteArray) (l : List Kp) : Int := match findI p l with | some r => (r.1 : Int) | none => -1
theorem find_none {p : ByteArray} : ∀ {l : List Kp}, (∀ j, j < l.length → (l.getD j kz).1 ≠ p) → findI p l = none
  | [], _ => rfl
  | x :: l, h => by
    have h0 : x.1 ≠ p := h 0 (by simp)
    unfold findI
    rw [if_neg h0, find_none (l := l) (fun j hj => h (j + 1) (by simp; omega))]; rfl
theorem find_first {p : ByteArray} : ∀ {l : List Kp} {k : Nat}, k < l.length → (∀ j, j < k → (l.getD j kz).1 ≠ p) → (l.getD k kz).1 = p → findI p l = some (k, (l.getD k kz).2)
  | x :: l, 0, _, _, h => by
    have h2 : x.1 = p := h
    unfold findI
    rw [if_pos h2]; rfl
  | x :: l, k + 1, hk, h1, h => by
    unfold findI
    have h0 : x.1 ≠ p := h1 0 (by omega)
    rw [if_neg h0, find_first (l := l) (k := k) (by simpa using hk) (fun j hj => h1 (j + 1) (by omega)) h]; rfl
theorem und_some {B : Nat} {w : World} {v : Value} {l : List Kp} {U : Nat → Prop} (h : Und B w v l U) (hl : l ≠ []) : ∃ b o c, v = .slice (some ⟨b, o, none⟩) l.length c ∧ Hid (∀ j, j < l.length → KAt w b o j (l.getD j kz)) ∧ Hid (UndB B w (some ⟨b, o, none⟩) b o c l) := by
  obtain ⟨ao, b, o, c, rfl, h2, h3⟩ := h
  have hp : 0 < l.length := by cases l with | nil => exact absurd rfl hl | cons x l => simp
  have hc : 0 < c := by have := h2.came.le; omega
  have e := h2.came.addr hc
  subst e
  exact ⟨b, o, c, rfl, fun j hj => h2.at hj, h2⟩
theorem und_shape {B : Nat} {w : World} {v : Value} {l : List Kp} {U : Nat → Prop} (h : Und B w v l U) : ∃ a c, v = .slice a l.length c := by
  obtain ⟨ao, b, o, c, e, _⟩ := h; exact ⟨ao, c, e⟩

set_option maxHeartbeats 1000000 in
theorem find_any (B : Nat) (v : Value) (l : List Kp) (U : Nat → Prop) (p : ByteArray) (w : World) (h : Und B w v l U) (hn : l.length ≤ 1048576) :
    Calls Tryd.prog 11 #[v, .string p] w fun e w' => e = .returned (.int .i64 (findZ p l)) ∧ w' = w := by
  obtain ⟨a, c, e9⟩ := und_shape h
  obtain ⟨n, hl⟩ : ∃ n, n = l.length := ⟨_, rfl⟩
  subst e9
  rw [← hl] at hn ⊢
  have HL : Hid (n = l.length) := hl
  have HU : Hid (Und B w (.slice a n c) l U) := by rw [hl]; exact h
  clear hl h
  go_enter Tryd.func11, Tryd.ntmps11
  go_wp2
  go_loopw [5] (fun vi wr => ∃ (k : Nat), k ≤ n ∧ vi = .int .i64 k ∧ Hid (∀ j, j < k → (l.getD j kz).1 ≠ p) ∧ wr = w) (fun vi _ => n - (intOf vi).toNat)
  case atStart => exact ⟨0, by omega, rfl, fun j hj => absurd hj (by omega), rfl⟩
  case round =>
    obtain ⟨k, hk, rfl, H1, rfl⟩ := hrel
    by_cases hlt : k < n
    · have hltz : (k : Int) < n := by omega
      obtain ⟨b, o, c2, e9, HC, _⟩ := und_some HU.out (by intro e; have := HL.out; rw [e] at this; simp at this; omega)
      injection e9 with e1 e2 e3
      clear e2
      subst e1
      have hkl : k < l.length := by rw [← HL.out]; exact hlt
      obtain ⟨a1, _⟩ := HC.out k hkl
      obtain ⟨x, hx⟩ : ∃ x, x = (l.getD k kz).1 := ⟨_, rfl⟩
      rw [← hx] at a1
      have HX : Hid (x = (l.getD k kz).1) := hx
      clear hx e3 HC
      by_cases hxy : x = p
      · have hb : (x.toList == p.toList) = true := by rw [hxy]; simp
        have HR : Hid ((k : Int) = findZ p l) := by
          unfold Hid findZ; rw [find_first hkl H1.out (HX.out.symm.trans hxy)]
        clear hxy
        go_wp2_with fail
        go_ret
        exact ⟨by rw [← HR.out]; rfl, rfl⟩
      · have hb : (x.toList == p.toList) = false := by rw [beq_eq_false_iff_ne]; exact fun e => hxy (bytes_inj e)
        have H3 : Hid (∀ j, j < k + 1 → (l.getD j kz).1 ≠ p) := by
          intro j hj
          rcases Nat.lt_succ_iff_lt_or_eq.1 hj with h | rfl
          · exact H1.out j h
          · rw [← HX.out]; exact hxy
        clear hxy
        go_wp2_with fail
        go_roundw
        case rel => exact ⟨k + 1, by omega, by go_num, H3, by first | rfl | trivial⟩
        case measure => simp [intOf]; omega
    · obtain rfl : k = n := by omega
      have HR : Hid ((-1 : Int) = findZ p l) := by unfold Hid findZ; rw [find_none (fun j hj => H1.out j (by rw [HL.out]; exact hj))]
      go_wp2_with fail
      go_ret
      exact ⟨by rw [← HR.out]; rfl, rfl⟩

theorem used_take (l : List Kp) {k : Nat} (hk : k < l.length) : used (l.take (k + 1)) = used (l.take k) + (l.getD k kz).2.size := by
  have e : l.take (k + 1) = l.take k ++ [l.getD k kz] := by rw [List.getD_eq_getElem?_getD, List.getElem?_eq_getElem hk, List.take_add_one, List.getElem?_eq_getElem hk]; rfl
  rw [e, Fb.used_append]; rfl
theorem used_take_le (l : List Kp) (k : Nat) : used (l.take k) ≤ used l := by
  have h := Fb.used_append (l.take k) (l.drop k)
  rw [List.take_append_drop] at h
  omega
set_option maxHeartbeats 1000000 in
theorem used_any (B : Nat) (v : Value) (l : List Kp) (U : Nat → Prop) (w : World) (h : Und B w v l U) (hn : l.length ≤ 1048576) (hu : used l ≤ 1048576) :
    Calls Tryd.prog 17 #[v] w fun e w' => e = .returned (.int .i64 (used l)) ∧ w' = w := by
  obtain ⟨a, c, e9⟩ := und_shape h
  obtain ⟨n, hl⟩ : ∃ n, n = l.length := ⟨_, rfl⟩
  subst e9
  rw [← hl] at hn ⊢
  have HL : Hid (n = l.length) := hl
  have HU : Hid (Und B w (.slice a n c) l U) := by rw [hl]; exact h
  have HUS : Hid (used l ≤ 1048576) := hu
  clear hl h hu
  go_enter Tryd.func17, Tryd.ntmps17
  go_wp2
  go_loopw [3, 4] (fun vn vi wr => ∃ (k t : Nat), k ≤ n ∧ vi = .int .i64 k ∧ vn = .int .i64 t ∧ Hid (t = used (l.take k)) ∧ wr = w) (fun _ vi _ => n - (intOf vi).toNat)
  case atStart => exact ⟨0, 0, by omega, rfl, rfl, rfl, rfl⟩
  case round =>
    obtain ⟨k, t, hk, rfl, rfl, H1, rfl⟩ := hrel
    by_cases hlt : k < n
    · have hltz : (k : Int) < n := by omega
      obtain ⟨b, o, c2, e9, HC, _⟩ := und_some HU.out (by intro e; have := HL.out; rw [e] at this; simp at this; omega)
      injection e9 with e1 e2 e3
      clear e2
      subst e1
      have hkl : k < l.length := by rw [← HL.out]; exact hlt
      obtain ⟨_, a1⟩ := HC.out k hkl
      obtain ⟨x, hx⟩ : ∃ x, x = (l.getD k kz).2 := ⟨_, rfl⟩
      have h9 := used_take l hkl
      have h8 := used_take_le l (k + 1)
      rw [← hx] at a1 h9
      have H3 : Hid (t + x.size = used (l.take (k + 1))) := by unfold Hid; rw [h9, H1.out]
      have hb : t + x.size ≤ 1048576 := by have := HUS.out; have := H3.out; omega
      clear hx e3 HC h9 h8
      go_wp2_with fail
      go_roundw
      case rel => exact ⟨k + 1, t + x.size, by omega, by go_num, by go_num, H3, by first | rfl | trivial⟩
      case measure => simp [intOf]; omega
    · obtain rfl : k = n := by omega
      have HR : Hid (t = used l) := by
        unfold Hid; rw [H1.out, List.take_of_length_le (by rw [← HL.out]; exact Nat.le_refl _)]
      go_wp2_with fail
      go_ret
      exact ⟨by rw [← HR.out]; rfl, rfl⟩

theorem flat_take (l : List Kp) (i : Nat) (hi : i ≤ l.length) : ∀ (j : Nat) (u : Value), (flatK (l.take i))[j]? = some u → (flatK l)[j]? = some u := by
  intro j u hu
  have e : flatK l = flatK (l.take i) ++ flatK (l.drop i) := by rw [← flatK_append, List.take_append_drop]
  rw [e, List.getElem?_append_left (List.getElem?_eq_some_iff.1 hu).1]; exact hu
theorem flat_drop (l : List Kp) (i : Nat) (hi : i ≤ l.length) : ∀ (j : Nat) (u : Value), (flatK (l.drop i))[j]? = some u → (flatK l)[i * 2 + j]? = some u := by
  intro j u hu
  have e : flatK l = flatK (l.take i) ++ flatK (l.drop i) := by rw [← flatK_append, List.take_append_drop]
  have h2 : (flatK (l.take i)).length = i * 2 := by rw [flatK_length, List.length_take]; omega
  rw [e, List.getElem?_append_right (by rw [h2]; omega), h2, show i * 2 + j - i * 2 = j by omega]; exact hu
theorem erase_split (l : List Kp) (i : Nat) : l.eraseIdx i = l.take i ++ l.drop (i + 1) := List.eraseIdx_eq_take_drop_succ l i
theorem und_le {B : Nat} {w : World} {a : Option Addr} {n c : Nat} {l : List Kp} {U : Nat → Prop} (h : Und B w (.slice a n c) l U) : n = l.length ∧ l.length ≤ c ∧ c ≤ maxLen := by
  obtain ⟨ao, b, o, c2, e, h2, _⟩ := h
  injection e with e1 e2 e3
  subst e3
  exact ⟨e2, h2.came.le, h2.max⟩
/- what is made anew -/
def Mk2 (w : World) (v' : Value) (l : List Kp) (w' : World) : Prop := ∃ U', Und w.heap.size w' v' l U' ∧ Below w.heap.size w w'
set_option maxRecDepth 100000 in
set_option maxHeartbeats 2000000 in
theorem off_any (B : Nat) (v : Value) (l : List Kp) (U : Nat → Prop) (i : Nat) (w : World) (h : Und B w v l U) (hi : i < l.length) (hn : l.length ≤ 100000) :
    Calls Tryd.prog 14 #[v, .int .i64 i] w fun e w' => ∃ a n c, e = .returned (.slice a n c) ∧ Mk2 w (.slice a n c) (l.eraseIdx i) w' := by
  obtain ⟨b, o, c, e9, HC, HUB⟩ := und_some h (by intro e; rw [e] at hi; simp at hi)
  obtain ⟨n, hl⟩ : ∃ n, n = l.length := ⟨_, rfl⟩
  subst e9
  obtain ⟨_, hlc, hcm⟩ := und_le h
  rw [← hl] at hn hi hlc ⊢
  obtain ⟨j, hj⟩ : ∃ j, j = i + 1 := ⟨_, rfl⟩
  have HO : Hid (∀ W, Below w.heap.size w W → ∀ (k : Nat) (u : Value), (flatK l)[k]? = some u → W.cell? ⟨b, o + k, none⟩ = some u) := fun W hb k u hu => keep_cell hb (HUB.out.came.olds k u hu)
  have HS1 : Hid (Src Tryd.prog 2 37 (.slice (some ⟨b, o, none⟩) i c) i (flatK (l.take i)) w) := by
    refine Src.ofSlice _ Tryd.underlying37 ⟨b, o, none⟩ i c (flatK (l.take i)) (by rw [flatK_length, List.length_take]; omega) (fun k u hu => ?_) (kept_one _)
    rw [Addr.add_lit]
    exact HO.out w (Below.refl _ _) k u (flat_take l i (by omega) k u hu)
  obtain ⟨ad, had, HS2⟩ : ∃ ad, (if c = j then some (⟨b, o, none⟩ : Addr) else some ⟨b, o + j * 2, none⟩) = some ad ∧ Hid (∀ W, Below w.heap.size w W → Src Tryd.prog 2 37 (.slice (some ad) (n - j) (c - j)) (n - j) (flatK (l.drop j)) W) := by
    by_cases e : c = j
    · refine ⟨⟨b, o, none⟩, by rw [if_pos e], fun W hb => ?_⟩
      have hz : l.drop j = [] := List.drop_of_length_le (by omega)
      rw [hz]
      refine Src.ofSlice _ Tryd.underlying37 ⟨b, o, none⟩ (n - j) (c - j) (flatK []) (by show 0 = _; omega) (fun k u hu => by simp [flatK] at hu) (kept_one _)
    · refine ⟨⟨b, o + j * 2, none⟩, by rw [if_neg e], fun W hb => ?_⟩
      refine Src.ofSlice _ Tryd.underlying37 ⟨b, o + j * 2, none⟩ (n - j) (c - j) (flatK (l.drop j)) (by rw [flatK_length, List.length_drop]; omega) (fun k u hu => ?_) (kept_one _)
      rw [Addr.add_lit, show o + j * 2 + k = o + (j * 2 + k) by omega]
      exact HO.out W hb _ u (flat_drop l j (by omega) k u hu)
  have hjz : (i : Int) + 1 = (j : Int) := by omega
  have h1 : (i : Int) ≤ n := by omega
  have h2 : (i : Int) ≤ c := by omega
  have h3 : (j : Int) ≤ n := by omega
  have h4 : (j : Int) ≤ c := by omega
  have h5 : c ≤ 9223372036854775807 := by unfold maxLen at hcm; omega
  have HIX : Hid (i < n ∧ j = i + 1 ∧ n = l.length ∧ n ≤ 100000) := ⟨hi, hj, hl, hn⟩
  have HE : Hid (l.take i ++ l.drop j = l.eraseIdx i) := by unfold Hid; rw [erase_split, hj]
  clear h HC HUB HO hlc hcm hl hi hj hn
  go_enter Tryd.func14, Tryd.ntmps14
  go_wp2_with (first
    | (at_builtin; refine wpList_app rfl (.tmp 6) (.tmp 9) rfl rfl (Und.nil w.heap.size w) (Nat.le_refl _) _ rfl i (l.take i) (by rw [List.length_take]; have := HIX.out; omega) HS1.out (by have := HIX.out; simp; omega) ?_; rintro v1 w1 U1 hu1 hc1 hf1 ⟨p1, n1, c1, rfl⟩; have HB1 : Hid (Below w.heap.size w w1) := ⟨hc1.os, hc1.tape, hc1.output, hc1.size, fun g hg => hc1.block g hg (fun e => e)⟩; have HU1 : Hid (Und w.heap.size w1 (.slice p1 n1 c1) (l.take i) U1) := (by rw [List.nil_append] at hu1; exact hu1); clear hu1 hc1 hf1)
    | (at_builtin; refine wpList_app rfl (.tmp 11) (.tmp 15) rfl rfl HU1.out HB1.out.size _ rfl (n - j) (l.drop j) (by rw [List.length_drop]; have := HIX.out; omega) (HS2.out w1 HB1.out) (by have := HIX.out; rw [List.length_take]; omega) ?_; rintro v2 w2 U2 hu2 hc2 hf2 ⟨p2, n2, c2, rfl⟩; have HB2 : Hid (Below w.heap.size w w2) := hc2.below (fun g hg => (HU1.out.lt g hg).1) HB1.out HB1.out.size; have HU2 : Hid (Und w.heap.size w2 (.slice p2 n2 c2) (l.eraseIdx i) U2) := (by rw [HE.out] at hu2; exact hu2); clear hu2 hc2 hf2))
  go_ret
  exact ⟨_, _, _, rfl, U2, HU2.out, HB2.out⟩

theorem kept_new (w : World) (x : Kp) (t : TypeId) : ∀ (j : Nat) (y : Value), (flatK [x])[j]? = some y → (w.alloc (.cells #[.string x.1, .string x.2] t)).cell? ((⟨w.heap.size, 0, none⟩ : Addr).add j) = some y := by
  intro j y hu
  have h2 := heap_alloc_new w (.cells #[.string x.1, .string x.2] t)
  have e : flatK [x] = [.string x.1, .string x.2] := rfl
  rw [e] at hu
  rw [Addr.add_lit, Nat.zero_add]
  simp only [World.cell?, h2]
  simpa using hu
theorem und_src {B : Nat} {w : World} {a : Option Addr} {n c : Nat} {l : List Kp} {U : Nat → Prop} (h : Und B w (.slice a n c) l U) : Src Tryd.prog 2 37 (.slice a n c) n (flatK l) w := by
  obtain ⟨ao, b, o, c2, e, h2, _⟩ := h
  injection e with e1 e2 e3
  subst e1 e2 e3
  rcases Nat.eq_zero_or_pos c with hc | hc
  · have hl : l = [] := List.eq_nil_of_length_eq_zero (by have := h2.came.le; omega)
    subst hl hc
    cases a with
    | none => exact Src.ofNil _ Tryd.underlying37 0
    | some ad => exact Src.ofSlice _ Tryd.underlying37 ad 0 0 (flatK []) rfl (fun k u hu => by simp [flatK] at hu) (kept_one _)
  · have e := h2.came.addr hc
    subst e
    refine Src.ofSlice _ Tryd.underlying37 ⟨b, o, none⟩ l.length c (flatK l) (flatK_length l) (fun k u hu => ?_) (kept_one _)
    rw [Addr.add_lit]
    exact h2.came.olds k u hu
theorem findZ_none {p : ByteArray} {l : List Kp} (h : findI p l = none) : findZ p l = -1 := by unfold findZ; rw [h]
theorem findZ_some {p t : ByteArray} {l : List Kp} {i : Nat} (h : findI p l = some (i, t)) : findZ p l = i := by unfold findZ; rw [h]
theorem find_lt {p t : ByteArray} : ∀ {l : List Kp} {i : Nat}, findI p l = some (i, t) → i < l.length
  | [], i, h => by cases h
  | x :: l, i, h => by
    unfold findI at h
    by_cases e : x.1 = p
    · rw [if_pos e] at h
      injection h with h
      injection h with h1 _
      rw [← h1]; simp
    · rw [if_neg e] at h
      cases hq : findI p l with
      | none => rw [hq] at h; cases h
      | some r =>
        rw [hq] at h
        obtain ⟨j, u⟩ := r
        simp only [Option.map_some, Option.some.injEq, Prod.mk.injEq] at h
        have := find_lt hq
        rw [← h.1]; simp; omega
theorem find_absent {p : ByteArray} {l : List Kp} (h : findI p l = none) : off p l = l := by
  have h9 := find_get p l
  rw [h] at h9
  exact Fb.off_none (Fb.get_none.1 h9.symm)
theorem trim_drop {b : Nat} {L : List Kp} {k : Nat} (hk : k < L.length) (hb : b < used (L.drop k)) : trim b (L.drop k) = trim b (L.drop (k + 1)) := by
  have e : L.drop k = L[k] :: L.drop (k + 1) := List.drop_eq_getElem_cons hk
  rw [e] at hb ⊢
  conv => lhs; unfold trim
  rw [if_pos hb]
theorem used_drop (m : List Kp) (k : Nat) : used (m.drop k) ≤ used m := by
  have h := Fb.used_append (m.take k) (m.drop k)
  rw [List.take_append_drop] at h
  omega
end Fx
end Go.Proofs.YtekmdkfbdcamdaaDoor
