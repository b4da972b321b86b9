/- Package edit: withDots; rows of ops that are made. -/
import Derived.Test.YtllcmfbkingfdaaGreatUc
namespace Go.Proofs.YtllcmfbkingfdaaGreat
namespace Ud
set_option linter.unusedVariables false
open Go.ChangeShapes Go.WideShapes Go.ChangeAt Go.RowKit Cm Ka Kb Na Om Oa Oz Oc Og Oi Hm Ia Ib Ic Idc Ie If Ig Ih Ii Ij Ik Il Im Um Ua Ub Uc
open La (bel bel_drew errV_zero errV_ne own_ge own_grow own_below Lies LeafsIn)
open Lj (BookAt BookNew)

def z0 : Ox × Value := (oz, .slice none 0 0)
theorem flatO_cons (y : Ox × Value) (M : List (Ox × Value)) : flatO (y :: M) = six y.1 y.2 ++ flatO M := rfl
theorem flatO_dot : ∀ {L : List (Ox × Value)} {k : Nat} {x : Ox} {v : Value} (a b : Int), L[k]? = some (x, v) → flatO (L.set k (((a, b), x.2), v)) = ((flatO L).set (k * 6) (.int .i64 a)).set (k * 6 + 1) (.int .i64 b)
  | [], k, x, v, a, b, h => by simp at h
  | y :: L, 0, x, v, a, b, h => by
    simp only [List.getElem?_cons_zero, Option.some.injEq] at h
    subst h
    rw [List.set_cons_zero, flatO_cons, flatO_cons]
    rfl
  | y :: L, k + 1, x, v, a, b, h => by
    have ih := flatO_dot a b (L := L) (k := k) (x := x) (v := v) (by simpa using h)
    have hl : (six y.1 y.2).length = 6 := rfl
    rw [List.set_cons_succ, flatO_cons, flatO_cons, ih, List.set_append_right _ _ (by rw [hl]; omega), List.set_append_right _ _ (by rw [hl]; omega), hl, show (k + 1) * 6 - 6 = k * 6 by omega, show (k + 1) * 6 + 1 - 6 = k * 6 + 1 by omega]
theorem rowO_dot {w : World} {g n : Nat} {L : List (Ox × Value)} {k : Nat} {x : Ox} {v : Value} (a b : Int) (h : RowO w g n L) (hk : L[k]? = some (x, v)) : RowO ((w.setCell ⟨g, k * 6, none⟩ (.int .i64 a)).setCell ⟨g, k * 6 + 1, none⟩ (.int .i64 b)) g n (L.set k (((a, b), x.2), v)) := by
  obtain ⟨cur, h1, h2, h3⟩ := h
  refine ⟨_, set_heap (set_heap h1), by simp [h2], ?_⟩
  rw [List.length_set, flatO_dot a b hk, ← h3]
  simp only [Array.toList_setIfInBounds, List.take_set]
def dotk (who n : Int) (L : List (Ox × Value)) : Nat → List (Ox × Value)
  | 0 => L
  | k + 1 => (dotk who n L k).set k (((who, n + 1 + k), (L.getD k z0).1.2), (L.getD k z0).2)
theorem dotk_len (who n : Int) (L : List (Ox × Value)) : ∀ k, (dotk who n L k).length = L.length
  | 0 => rfl
  | k + 1 => by rw [dotk, List.length_set, dotk_len who n L k]
theorem dotk_late (who n : Int) (L : List (Ox × Value)) : ∀ k j, k ≤ j → (dotk who n L k)[j]? = L[j]?
  | 0, j, _ => rfl
  | k + 1, j, h => by rw [dotk, List.getElem?_set_ne (by omega)]; exact dotk_late who n L k j (by omega)
theorem dotk_early (who n : Int) (L : List (Ox × Value)) : ∀ k j, j < k → j < L.length → (dotk who n L k)[j]? = some (((who, n + 1 + j), (L.getD j z0).1.2), (L.getD j z0).2)
  | 0, j, h, _ => absurd h (by omega)
  | k + 1, j, h, hl => by
    rw [dotk]
    rcases Nat.lt_or_eq_of_le (show j ≤ k by omega) with e | e
    · rw [List.getElem?_set_ne (by omega)]; exact dotk_early who n L k j e hl
    · rw [e, List.getElem?_set_self (by rw [dotk_len]; omega)]
def redot (who n : Int) (Q : List Ox) : List Ox := (List.range Q.length).map fun (k : Nat) => ((who, n + 1 + (k : Int)), (Q.getD k oz).2)
theorem redot_len (who n : Int) (Q : List Ox) : (redot who n Q).length = Q.length := by unfold redot; simp
theorem dotk_map (who n : Int) (L : List (Ox × Value)) : (dotk who n L L.length).map (·.1) = redot who n (L.map (·.1)) := by
  apply List.ext_getElem?
  intro j
  unfold redot
  rw [List.getElem?_map, List.getElem?_map, List.length_map]
  by_cases hj : j < L.length
  · rw [dotk_early who n L L.length j hj hj, List.getElem?_range hj]
    simp only [Option.map_some, List.getD_eq_getElem?_getD, List.getElem?_map, List.getElem?_eq_getElem hj, Option.getD_some]
  · rw [List.getElem?_eq_none (by rw [dotk_len]; omega), List.getElem?_eq_none (by simp; omega)]; rfl
theorem dotk_own {who n : Int} {L : List (Ox × Value)} {y : Ox × Value} (h : y ∈ dotk who n L L.length) : ∃ z ∈ L, y.2 = z.2 ∧ y.1.2.2.2.2 = z.1.2.2.2.2 := by
  obtain ⟨j, hj, e⟩ := List.getElem_of_mem h
  have hj2 : j < L.length := by rw [dotk_len] at hj; exact hj
  have h1 := dotk_early who n L L.length j hj2 hj2
  rw [List.getElem?_eq_getElem hj, e] at h1
  injection h1 with h1
  refine ⟨L[j], List.getElem_mem hj2, ?_⟩
  rw [h1, List.getD_eq_getElem?_getD, List.getElem?_eq_getElem hj2]
  exact ⟨rfl, rfl⟩
/- withDots under way -/
structure DotSt (B : Nat) (w : World) (who n : Int) (L : List (Ox × Value)) (g k : Nat) (wr : World) : Prop where
  bl : Below B w wr
  row : RowO wr g L.length (dotk who n L k)
  own : ∀ y ∈ L, wr.ownsRow B 32 2 y.2 y.1.2.2.2.2.length (flatD y.1.2.2.2.2)
theorem DotSt.put {B : Nat} {w : World} {who n : Int} {L : List (Ox × Value)} {g k : Nat} {wr : World} (h : DotSt B w who n L g k wr) (hg : B ≤ g) (hk : k < L.length) : DotSt B w who n L g (k + 1) ((wr.setCell ⟨g, k * 6, none⟩ (.int .i64 who)).setCell ⟨g, k * 6 + 1, none⟩ (.int .i64 (n + 1 + k))) := by
  have hy : (dotk who n L k)[k]? = some ((L.getD k z0).1, (L.getD k z0).2) := by
    rw [dotk_late who n L k k (Nat.le_refl _), List.getD_eq_getElem?_getD, List.getElem?_eq_getElem hk]; rfl
  have hr := rowO_dot who (n + 1 + k) h.row hy
  refine ⟨(h.bl.setCell (p := ⟨g, k * 6, none⟩) hg _).setCell (p := ⟨g, k * 6 + 1, none⟩) hg _, hr, fun y hy => ?_⟩
  have hne : ∀ q, y.2.ownBlock = some q → q ≠ g := fun q hq e => by
    obtain ⟨_, cur, hc⟩ := own_lt (h.own y hy) q hq
    obtain ⟨cur2, c1, _⟩ := h.row
    rw [e, c1] at hc
    injection hc with hc
    injection hc with _ hc _
    exact absurd hc (by decide)
  refine own_stay (h.own y hy) fun q hq => ?_
  rw [set_block _ _ _ _ (hne q hq), set_block _ _ _ _ (hne q hq)]

set_option maxRecDepth 100000 in
set_option maxHeartbeats 2000000 in
theorem dots_any (D : Nat) (S : Dq) (F : Nat → Prop) (who : Int) (B : Nat) (Q : List Ox) (v : Value) (w : World) (h : DocAt w D S F) (h1 : 1 ≤ who) (h8 : who ≤ 8) (hq : OpsNew B w v Q) (hB : B ≤ w.heap.size) (hQ : Q.length ≤ 1000) :
    Calls Tryz.prog 35 #[.pointer (some ⟨D, 0, none⟩), .int .i64 who, v] w fun e w' => e = .returned v ∧ OpsNew B w' v (redot who (kn S who) Q) ∧ Below B w w' := by
  have C := known_get D S F w h
  have I := h.inv
  obtain ⟨n0, n1⟩ := kn_le I h1 h8
  have hf := I.few
  have hl8 := I.klen
  obtain ⟨g, L, rfl, hg, hL, hr, hl, ho⟩ := hq
  have hLl : L.length = Q.length := by rw [← hL, List.length_map]
  obtain ⟨n, hn⟩ : ∃ n, n = Q.length := ⟨_, rfl⟩
  obtain ⟨kk, hkk⟩ : ∃ kk, kk = kn S who := ⟨_, rfl⟩
  obtain ⟨r, hrw⟩ : ∃ r : Nat, who = (r : Int) + 1 := ⟨(who - 1).toNat, by omega⟩
  have HKV : Hid (S.known.getD r 0 = kk) := by unfold Hid; rw [hkk, hrw]; unfold kn; rw [show ((r : Int) + 1 - 1).toNat = r by omega]
  have hr8 : r < 8 := by omega
  have hkk0 : 0 ≤ kk := by omega
  have hkk4 : kk ≤ 400 := by omega
  have hn1 : n ≤ 1000 := by omega
  rw [← hn, ← hkk]
  have HLN : Hid (L.length = n) := by unfold Hid; omega
  have HQN : Hid (Q.length = n) := hn.symm
  have HLM : Hid (L.map (·.1) = Q) := hL
  have HL8 : Hid (S.known.length = 8) := hl8
  have HS0 : Hid (DotSt B w who kk L g 0 w) := ⟨Below.refl _ _, by rw [hLl]; exact hr, ho⟩
  have HG : Hid (B ≤ g) := hg
  clear h I n0 n1 hf hl8 hL hr hl ho hLl hn hkk hg h1 h8 hQ
  subst hrw
  go_enter Tryz.func35, Tryz.ntmps35
  go_wp2_with fail
  refine C.mono ?_
  rintro e w1 ⟨vk, rfl, hk1, _, hb1⟩
  obtain ⟨qk, ck, rfl, hin⟩ := hk1
  obtain ⟨bk, ok, rfl, hcs⟩ := hin.some (by intro e; have := HL8.out; rw [e] at this; simp at this)
  have hc1 := hcs r (by rw [HL8.out]; exact hr8)
  rw [HKV.out] at hc1
  rw [HL8.out]
  have HS1 : Hid (DotSt B w ((r : Int) + 1) kk L g 0 w1) := ⟨HS0.out.bl.trans (hb1.mono hB), HS0.out.row.below hb1, fun y hy => own_below (HS0.out.own y hy) hb1⟩
  clear hb1 hin hcs C HS0
  go_wp2_with fail
  go_loopw [17] (fun vi wr => ∃ (k : Nat), k ≤ n ∧ vi = .int .i64 k ∧ Hid (DotSt B w ((r : Int) + 1) kk L g k wr)) (fun vi _ => n - (intOf vi).toNat)
  case atStart => exact ⟨0, by omega, rfl, HS1⟩
  case round =>
    clear HS1 hc1
    obtain ⟨k, hk, rfl, HST⟩ := hrel
    by_cases hlt : k < n
    · have hltz : (k : Int) < n := by omega
      have hkl : k < L.length := by rw [HLN.out]; exact hlt
      obtain ⟨⟨y0, z0⟩, g0⟩ := HST.out.row.cell6 hkl 0 (by omega)
      obtain ⟨⟨y1, z1⟩, g1⟩ := HST.out.row.cell6 hkl 1 (by omega)
      rw [Nat.add_zero] at z0 g0
      have HP : Hid (DotSt B w ((r : Int) + 1) kk L g (k + 1) ((wr.setCell ⟨g, k * 6, none⟩ (.int .i64 ((r : Int) + 1))).setCell ⟨g, k * 6 + 1, none⟩ (.int .i64 (kk + 1 + k)))) := HST.out.put HG.out hkl
      clear hkl
      go_wp2_with fail
      go_roundw
      case rel => exact ⟨k + 1, by omega, by go_num, HP⟩
      case measure => simp [intOf]; omega
    · obtain rfl : n = k := by omega
      have hltz : ¬ (n : Int) < n := by omega
      go_wp2_with fail
      go_ret
      have hrow := HST.out.row
      have hLn := HLN.out
      refine ⟨rfl, ⟨g, dotk ((r : Int) + 1) kk L L.length, by rw [redot_len, HQN.out], HG.out, by rw [dotk_map, HLM.out], by rw [redot_len, HQN.out, ← hLn]; rw [← hLn] at hrow; exact hrow, by rw [redot_len, HQN.out]; omega, fun y hy => ?_⟩, HST.out.bl⟩
      obtain ⟨z, hz, e1, e2⟩ := dotk_own hy
      rw [e1, e2]
      exact HST.out.own z hz

end Ud
end Go.Proofs.YtllcmfbkingfdaaGreat
