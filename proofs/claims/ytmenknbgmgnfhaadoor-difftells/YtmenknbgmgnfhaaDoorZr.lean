/- The document's answer: what edits make of a text. -/
import Derived.Test.YtmenknbgmgnfhaaDoorZn
namespace Go.Proofs.YtmenknbgmgnfhaaDoor
namespace Zr
set_option linter.unusedVariables false
set_option linter.unusedSimpArgs false
open Go.ChangeShapes Go.WideShapes Go.ChangeAt Go.RowKit Ka Kb Zb Zc Zd Ze Zf Zg Zh Zi Zj Zm Zn

structure Eq' (A : List UInt8) (l : List Fr) (k : Nat) (F S : ByteArray) : Prop where
  eq : run A (eds l) = (run F.toList (eds (l.drop k))).map fun t => S.toList ++ t
  sz : F.size ≤ 200
  sb : S.size ≤ k * 140737488355528
theorem Eq'.start {a : ByteArray} {l : List Fr} (ha : a.size ≤ 200) : Eq' a.toList l 0 a ⟨#[]⟩ :=
  ⟨by rw [show (⟨#[]⟩ : ByteArray).toList = [] from toList_mk []]; simp, ha, Nat.zero_le _⟩
theorem Eq'.bad {A : List UInt8} {l : List Fr} {k : Nat} {F S : ByteArray} (h : Eq' A l k F S) (hk : k < l.length) (hb : Zc.bad F.toList (ed (l.getD k fz))) : run A (eds l) = none := by
  rw [h.eq, eds_at hk, run_bad hb]; rfl
theorem Eq'.next {A : List UInt8} {l : List Fr} {k : Nat} {F S : ByteArray} (h : Eq' A l k F S) (hk : k < l.length) {kk tt : Nat} {d : ByteArray} (hx : l.getD k fz = ((kk : Int), (tt : Int), d)) (hs : kk + tt ≤ F.size) (hd : d.size ≤ 140737488355328) :
    Eq' A l (k + 1) (F.extract (kk + tt) F.size) (S ++ F.extract 0 kk ++ d) := by
  have hnb : ¬ Zc.bad F.toList (ed (l.getD k fz)) := by
    rw [hx]; unfold Zc.bad ed; simp only [Kb.len_eq]; omega
  have hF := h.sz
  have hS := h.sb
  refine ⟨?_, by rw [size_extract _ _ _ (Nat.le_refl _)]; omega, ?_⟩
  · rw [h.eq, eds_at hk, run_ok hnb, list_rest, app_list, app_list, list_extract, List.drop_zero]
    have hr : rest F.toList (ed (l.getD k fz)) = F.toList.drop (kk + tt) := by rw [hx]; rfl
    rw [hr, Option.map_map]
    congr 1
    funext t
    rw [hx]
    simp [ed]
  · rw [app_size, app_size, size_extract _ _ _ (by omega), Nat.add_mul]; omega
theorem Eq'.done {A : List UInt8} {l : List Fr} {k : Nat} {F S : ByteArray} (h : Eq' A l k F S) (hk : l.length ≤ k) : run A (eds l) = some (S ++ F).toList := by
  rw [h.eq, List.drop_eq_nil_of_le hk, app_list]; rfl

set_option maxRecDepth 100000 in
set_option maxHeartbeats 4000000 in
theorem edited_any (a : ByteArray) (R : Nat → Prop) (v : Value) (l : List Fr) (w : World) (h : FrsJ R w v l) (ha : a.size ≤ maxLen) (hz : ∀ x ∈ l, x.2.2.size ≤ 140737488355328) :
    Calls Tryd.prog 6 #[.string a, v] w fun e w' => e = .returned (.tuple #[.string (bs (appR a.toList (eds l))), .int .i64 (appE a.toList (eds l))]) ∧ Hid (Below w.heap.size w w') := by
  obtain ⟨p, c, rfl, hk, hc1, hc2, _⟩ := h
  obtain ⟨n, hl⟩ : ∃ n, l.length = n := ⟨_, rfl⟩
  rw [hl] at hc1 ⊢
  have HL : Hid (l.length = n) := hl
  have HZ : Hid (∀ x ∈ l, x.2.2.size ≤ 140737488355328) := hz
  have HK : Hid (FrsK R w p l) := hk
  have hel : (eds l).length = n := by rw [eds, List.length_map]; exact hl
  unfold maxLen at ha hc2
  by_cases hfull : 200 < a.size ∨ 200 < n
  · have HE : Hid (appE a.toList (eds l) = 4) := by rw [Hid, appE, if_pos (by rw [Kb.len_eq, hel]; exact hfull)]
    have HA : Hid (appR a.toList (eds l) = []) := by rw [Hid, appR, HE.out]; rfl
    rw [HE.out, HA.out]
    clear hl hz hk hel HK HZ HL HE HA
    by_cases h1 : 200 < a.size
    · have z1 : (200 : Int) < (a.size : Int) := by omega
      go_enter Tryd.func6, Tryd.ntmps6
      go_wp2_with fail
      go_ret2
      exact ⟨rfl, Below.refl _ _⟩
    · have z1 : ¬ (200 : Int) < (a.size : Int) := by omega
      have z2 : (200 : Int) < (n : Int) := by omega
      go_enter Tryd.func6, Tryd.ntmps6
      go_wp2_with fail
      go_ret2
      exact ⟨rfl, Below.refl _ _⟩
  · have ha2 : a.size ≤ 200 := by omega
    have hn2 : n ≤ 200 := by omega
    have HEN : Hid (run a.toList (eds l) = none → appE a.toList (eds l) = 1 ∧ appR a.toList (eds l) = []) := by
      intro e
      have e1 : appE a.toList (eds l) = 1 := by rw [appE, if_neg (by rw [Kb.len_eq, hel]; exact hfull), e]
      exact ⟨e1, by rw [appR, e1]; rfl⟩
    have HES : Hid (∀ t, run a.toList (eds l) = some t → appE a.toList (eds l) = (if 200 < t.length then 4 else 0) ∧ appR a.toList (eds l) = (if 200 < t.length then [] else t)) := by
      intro t e
      have e1 : appE a.toList (eds l) = (if 200 < t.length then 4 else 0) := by rw [appE, if_neg (by rw [Kb.len_eq, hel]; exact hfull), e]
      refine ⟨e1, ?_⟩
      rw [appR, e1, e]
      by_cases ht : 200 < t.length
      · rw [if_pos ht, if_pos ht]; rfl
      · rw [if_neg ht, if_neg ht]; rfl
    have z1 : ¬ (200 : Int) < (a.size : Int) := by omega
    have z2 : ¬ (200 : Int) < (n : Int) := by omega
    obtain ⟨EE, hEE⟩ : ∃ x, x = appE a.toList (eds l) := ⟨_, rfl⟩
    obtain ⟨RR, hRR⟩ : ∃ x, x = appR a.toList (eds l) := ⟨_, rfl⟩
    rw [← hEE, ← hRR]
    rw [← hEE, ← hRR] at HEN HES
    have HA0 : Hid (Eq' a.toList l 0 a ⟨#[]⟩) := Eq'.start ha2
    obtain ⟨A, hA⟩ : ∃ A, A = a.toList := ⟨_, rfl⟩
    rw [← hA] at HA0 HEN HES
    clear hl hz hk hel hfull ha hEE hRR hA
    go_enter Tryd.func6, Tryd.ntmps6
    go_wp2_with fail
    go_loopw [0, 6, 7, 8] (fun s0 s6 s7 _ wr => ∃ (k : Nat) (F S : ByteArray), k ≤ n ∧ s7 = .int .i64 k ∧ s0 = .string F ∧ s6 = .string S ∧ Hid (Eq' A l k F S) ∧ Hid (Below w.heap.size w wr)) (fun _ _ s7 _ _ => n - (intOf s7).toNat)
    case atStart => exact ⟨0, a, ⟨#[]⟩, Nat.zero_le _, rfl, rfl, rfl, HA0, Below.refl _ _⟩
    case round =>
      obtain ⟨k, F, S, hkn, rfl, rfl, rfl, HA, HB⟩ := hrel
      have hFs : F.size ≤ 200 := HA.out.sz
      have hSs : S.size ≤ 28147497671105600 := by have := HA.out.sb; omega
      by_cases hlt : k < n
      · have hltz : (k : Int) < n := by omega
        obtain ⟨b, o, rfl, _, hc⟩ := HK.out.some (by intro e; have := HL.out; rw [e] at this; simp at this; omega)
        obtain ⟨e1, e2, e3⟩ := hc k (by rw [HL.out]; exact hlt)
        have d1 := keep_cell HB.out e1
        have d2 := keep_cell HB.out e2
        have d3 := keep_cell HB.out e3
        have hsz := HZ.out _ (getD_mem (l := l) (k := k) (by rw [HL.out]; exact hlt))
        have hlt2 : k < l.length := by rw [HL.out]; exact hlt
        obtain ⟨x, hx⟩ : ∃ x, l.getD k fz = x := ⟨_, rfl⟩
        rw [hx] at d1 d2 d3 hsz
        obtain ⟨kk, tt, dd⟩ := x
        dsimp only at d1 d2 d3 hsz
        clear e1 e2 e3 hc
        have hB0 : Below w.heap.size w (wr.alloc (.cells #[.int .i64 kk, .int .i64 tt, .string dd] 43)) := HB.out.alloc (HB.out.size) _
        have hA0 := heap_alloc_new wr (.cells #[.int .i64 kk, .int .i64 tt, .string dd] 43)
        go_upto_region 8 with fail
        generalize wr.alloc (.cells #[.int .i64 kk, .int .i64 tt, .string dd] 43) = w0 at hB0 hA0 ⊢
        have HB0 : Hid (Below w.heap.size w w0) := hB0
        have HY : Hid (∀ W, Below w0.heap.size w0 W → W.cell? ⟨wr.heap.size, 0, none⟩ = some (.int .i64 kk) ∧ W.cell? ⟨wr.heap.size, 1, none⟩ = some (.int .i64 tt) ∧ W.cell? ⟨wr.heap.size, 2, none⟩ = some (.string dd)) := fun W hb => ⟨keep_cell hb (blk_cell hA0 (i := 0) rfl), keep_cell hb (blk_cell hA0 (i := 1) rfl), keep_cell hb (blk_cell hA0 (i := 2) (u := .string dd) rfl)⟩
        clear hB0 hA0
        obtain ⟨y0, y1, y2⟩ := HY.out w0 (Below.refl _ _)
        by_cases hbad : Zc.bad F.toList (ed (kk, tt, dd))
        · have HE : Hid (EE = 1 ∧ RR = []) := HEN.out (HA.out.bad hlt2 (by rw [hx]; exact hbad))
          unfold Zc.bad ed at hbad
          simp only [Kb.len_eq] at hbad
          clear hx hlt2
          by_cases g1 : kk < 0
          · clear hbad
            go_wp2_with fail
            go_ret2
            exact ⟨by rw [HE.out.1, HE.out.2]; rfl, HB0⟩
          · by_cases g2 : tt < 0
            · clear hbad
              go_wp2_with fail
              go_ret2
              exact ⟨by rw [HE.out.1, HE.out.2]; rfl, HB0⟩
            · by_cases g3 : (F.size : Int) < kk
              · clear hbad
                go_wp2_with fail
                go_ret2
                exact ⟨by rw [HE.out.1, HE.out.2]; rfl, HB0⟩
              · obtain ⟨kk, rfl⟩ : ∃ m : Nat, kk = m := ⟨kk.toNat, by omega⟩
                have g4 : (F.size : Int) - (kk : Int) < tt := by omega
                clear hbad
                go_wp2_with fail
                go_ret2
                exact ⟨by rw [HE.out.1, HE.out.2]; rfl, HB0⟩
        · obtain ⟨k0, t0, hk0, ht0, hkt⟩ := nb hbad
          have hk1 : kk = (k0 : Int) := hk0
          have ht1 : tt = (t0 : Int) := ht0
          subst hk1 ht1
          rw [Kb.len_eq] at hkt
          have HA2 : Hid (Eq' A l (k + 1) (F.extract (k0 + t0) F.size) (S ++ F.extract 0 k0 ++ dd)) := HA.out.next hlt2 hx hkt hsz
          have g1 : ¬ (k0 : Int) < 0 := by omega
          have g2 : ¬ (t0 : Int) < 0 := by omega
          have g3 : ¬ (F.size : Int) < (k0 : Int) := by omega
          have g4 : ¬ (F.size : Int) - (k0 : Int) < (t0 : Int) := by omega
          have g5 : k0 ≤ F.size := by omega
          have g6 : (0 : Int) ≤ (k0 : Int) + (t0 : Int) := by omega
          have g7 : (k0 : Int) + (t0 : Int) ≤ (F.size : Int) := by omega
          clear hx hlt2 hbad hk0 ht0 HA
          go_wp2_with fail
          go_region
          generalize hwq : World.drew _ = w5
          have HB5 : Hid (Below w.heap.size w w5) := by rw [← hwq]; exact HB0.out.drew
          obtain ⟨x0, x1, x2⟩ := HY.out w5 (by rw [← hwq]; exact (Below.refl _ _).drew)
          clear hwq y0 y1 y2
          go_wp2_with fail
          go_roundw
          case rel => exact ⟨k + 1, _, _, by omega, by go_num, rfl, rfl, HA2, HB5⟩
          case measure => simp [intOf]; omega
      · have hltz : ¬ (k : Int) < n := by omega
        have HD := HA.out.done (by rw [HL.out]; omega)
        have HES2 := HES.out _ HD
        rw [Kb.len_eq] at HES2
        obtain ⟨T, hT⟩ : ∃ T, T = S ++ F := ⟨_, rfl⟩
        rw [← hT] at HES2
        have hTs : T.size = S.size + F.size := by rw [hT]; exact app_size S F
        by_cases hbig : 200 < S.size + F.size
        · have hbz : (200 : Int) < (S.size : Int) + (F.size : Int) := by omega
          rw [if_pos (by omega), if_pos (by omega)] at HES2
          have HE : Hid (EE = 4 ∧ RR = []) := HES2
          clear HES2 HD hT hTs
          go_wp2_with fail
          go_ret2
          exact ⟨by rw [HE.out.1, HE.out.2]; rfl, HB⟩
        · have hbz : ¬ (200 : Int) < (S.size : Int) + (F.size : Int) := by omega
          rw [if_neg (by omega), if_neg (by omega)] at HES2
          have HE : Hid (EE = 0 ∧ bs RR = S ++ F) := ⟨HES2.1, by rw [HES2.2, bs_back, hT]⟩
          clear HES2 HD hT hTs
          go_wp2_with fail
          go_ret2
          exact ⟨by rw [HE.out.1, HE.out.2]; rfl, HB⟩

end Zr
end Go.Proofs.YtmenknbgmgnfhaaDoor
