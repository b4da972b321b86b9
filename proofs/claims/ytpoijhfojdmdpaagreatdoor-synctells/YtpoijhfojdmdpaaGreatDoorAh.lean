/- The reference's Lacks. -/
import Derived.Test.YtpoijhfojdmdpaaGreatDoorAe
namespace Go.Proofs.YtpoijhfojdmdpaaGreatDoor
namespace Ah
set_option linter.unusedVariables false
set_option linter.unusedSimpArgs false
open Go.ChangeShapes Go.WideShapes Go.ChangeAt Go.RowKit Cm Ka Kb Na Om Oa Oz Oc Og Oi Hm Ia Ib Ic Idc Ie If Ig Ih Ii Ij Ik Il Im Iq Aa Ac Ae
open La (bel bel_drew errV_zero errV_ne own_ge own_grow own_below Lies)

/- dots in older blocks stay while a row of the call's own grows -/
theorem dots_grow {w w' : World} {B : Nat} {Q : Nat → Prop} {v u : Value} {L : List (Ox × Value)} {s : List Dt} (hr : RowL B w v L) (hs : DtsAt w u s) (hi : In Q u) (hQ : ∀ g, Q g → g < B) (hB : B ≤ w.heap.size) (hg : w.grownBy w' v.ownBlock) : DtsAt w' u s :=
  dots_stay hs hi fun g hg2 => hg.block g (by have := hQ g hg2; omega) (fun e => by
    have h1 := (World.ownsRow.lt hr g e.symm).1
    have := hQ g hg2
    omega)

set_option maxRecDepth 100000 in
set_option maxHeartbeats 4000000 in
theorem lack_ref (R Q : Nat → Prop) (vl vv : Value) (l : List Ox) (v : List Int) (w : World) (hl : OpsJ R Q w vl l) (hQ : ∀ g, Q g → g < w.heap.size) (hv : KnAt w vv v) (hv8 : v.length = 8) (hr : ∀ o ∈ l, 1 ≤ o.1.1 ∧ o.1.1 ≤ 8) (h400 : l.length ≤ 400) :
    Calls Tryz.prog 6 #[vl, vv] w fun e w' => ∃ p n c, e = .returned (.slice p n c) ∧ OpsJ (New w.heap.size w') Q w' (.slice p n c) (lackL l v) ∧ Below w.heap.size w w' := by
  obtain ⟨q, c, rfl, hin, hlc, hcm, _⟩ := hl
  obtain ⟨pv, cv, rfl, hvin⟩ := hv
  obtain ⟨n, hn⟩ : ∃ n, n = l.length := ⟨_, rfl⟩
  have hn4 : n ≤ 400 := by omega
  obtain ⟨bv, ov, rfl, hvc⟩ : ∃ b o, pv = some ⟨b, o, none⟩ ∧ ∀ j, j < v.length → w.cell? ⟨b, o + j, none⟩ = some (.int .i64 (v.getD j 0)) := by
    rcases hvin with e | h
    · rw [e] at hv8; simp at hv8
    · exact h
  rw [← hn, hv8]
  have HN : Hid (l.length = n) := hn.symm
  have HV : Hid (∀ j, j < 8 → w.cell? ⟨bv, ov + j, none⟩ = some (.int .i64 (v.getD j 0))) := fun j hj => hvc j (by omega)
  have HI : Hid (OpsK R Q w q l) := hin
  have HQ : Hid (∀ g, Q g → g < w.heap.size) := hQ
  have HR : Hid (∀ o ∈ l, 1 ≤ o.1.1 ∧ o.1.1 ≤ 8) := hr
  obtain ⟨i0, hi, hz0, hz1, hzz2⟩ := info_parts Ae.infoO
  clear hin hn hlc hcm hvc hr hQ h400 hv8
  go_enter Tryz.func6, Tryz.ntmps6
  go_wp2_with fail
  go_loopw [5, 6] (fun v7 vi wr => ∃ (k : Nat) (L : List (Ox × Value)), k ≤ n ∧ vi = .int .i64 k ∧ (∃ P N C, v7 = .slice P N C) ∧ Hid (L.length ≤ k) ∧ Hid (RowL w.heap.size wr v7 L) ∧ Hid (∀ y ∈ L, DtsAt wr y.2 y.1.2.2.2.2 ∧ In Q y.2) ∧ Hid (L.map (·.1) = lackL (l.take k) v) ∧ Hid (Below w.heap.size w wr)) (fun _ vi _ => n - (intOf vi).toNat)
  case atStart => exact ⟨0, [], by omega, rfl, ⟨_, _, _, rfl⟩, Nat.zero_le _, World.ownsRow_nil _ _ _ _, fun y hy => by simp at hy, rfl, Below.refl _ _⟩
  case round =>
    obtain ⟨k, L, hk, rfl, ⟨p0, n0, c0, rfl⟩, HLK, HRW, HDW, HLM, HB⟩ := hrel
    by_cases hlt : k < n
    · have hltz : (k : Int) < n := by omega
      have hkl : k < l.length := by rw [HN.out]; exact hlt
      obtain ⟨bo, oo, rfl, _, hc⟩ := HI.out.some (by intro e; rw [e] at hkl; simp at hkl)
      have ha0 := hc k hkl
      have hwho := HR.out _ (getO_mem hkl)
      have hstep := lack_step (v := v) hkl
      obtain ⟨x, hx⟩ : ∃ x, x = l.getD k oz := ⟨_, rfl⟩
      rw [← hx] at ha0 hwho hstep
      have HST : Hid (lackL (l.take (k + 1)) v = lackL (l.take k) v ++ (if lacks v x then [x] else [])) := hstep
      obtain ⟨⟨xa, xb⟩, xt, xp, xc, xs⟩ := x
      obtain ⟨vx, ⟨g0, g1, g2, g3, g4, g5⟩, hdx0, hix⟩ := ha0
      simp only at g0 g1 g2 g3 g4 g5 hdx0 hwho
      obtain ⟨ps, ns, cs, rfl⟩ : ∃ pv nv cv, vx = .slice pv nv cv := by obtain ⟨_, _, e9, _⟩ := hdx0; exact ⟨_, _, _, e9⟩
      obtain ⟨d1, d2⟩ := hwho
      obtain ⟨qv, hqv⟩ : ∃ qv, qv = v.getD (xa - 1).toNat 0 := ⟨_, rfl⟩
      have HLX : Hid (lacks v ((xa, xb), xt, xp, xc, xs) = !decide (xb ≤ qv)) := by unfold Hid lacks; rw [hqv]
      have xk : wr.cell? ⟨bv, ov + (xa.toNat - 1), none⟩ = some (.int .i64 qv) := by
        have := keep_cell HB.out (HV.out (xa.toNat - 1) (by omega))
        rw [hqv, show (xa - 1).toNat = xa.toNat - 1 by omega]; exact this
      have HSX : Hid (∀ W, Below w.heap.size w W → W.cell? ⟨bo, oo + k * 6, none⟩ = some (.int .i64 xa) ∧ W.cell? ⟨bo, oo + k * 6 + 1, none⟩ = some (.int .i64 xb) ∧ W.cell? ⟨bo, oo + k * 6 + 2, none⟩ = some (.int .i64 xt) ∧ W.cell? ⟨bo, oo + k * 6 + 3, none⟩ = some (.string xp) ∧ W.cell? ⟨bo, oo + k * 6 + 4, none⟩ = some (.int .i64 xc) ∧ W.cell? ⟨bo, oo + k * 6 + 5, none⟩ = some (.slice ps ns cs)) := fun W hb => ⟨keep_cell hb g0, keep_cell hb g1, keep_cell hb g2, keep_cell hb g3, keep_cell hb g4, keep_cell hb g5⟩
      have HDX : Hid (∀ W, Below w.heap.size w W → DtsAt W (.slice ps ns cs) xs) := fun W hb => hdx0.below hb
      have HIX : Hid (In Q (.slice ps ns cs)) := hix
      obtain ⟨a0, a1, a2, a3, a4, a5⟩ := HSX.out wr HB.out
      have hwr : IntKind.i64.wrap (xa - 1) = xa - 1 := wrap_in (by omega) (by omega)
      have hi0 : 0 ≤ xa - 1 := by omega
      have hi1 : xa - 1 < 8 := by omega
      clear hc hx hkl hdx0 hix hstep g0 g1 g2 g3 g4 g5 hqv
      by_cases hq : qv < xb
      · have hqb : decide (qv < xb) = true := decide_eq_true hq
        have HL2 : Hid (lackL (l.take (k + 1)) v = lackL (l.take k) v ++ [((xa, xb), xt, xp, xc, xs)]) := by
          unfold Hid; rw [HST.out, HLX.out, decide_eq_false (by omega)]; rfl
        clear HST HLX
        go_wp2_with fail
        go_quiet (fail)
        generalize hwq : World.drewN _ _ = wq
        have HBq : Hid (Below w.heap.size w wq) := by rw [← hwq]; exact bel_drew HB.out _
        have HRq : Hid (Below wr.heap.size wr wq) := by rw [← hwq]; exact bel_drew (Below.refl _ _) _
        clear hwq a0 a1 a2 a3 a4 a5 xk
        obtain ⟨a0, a1, a2, a3, a4, a5⟩ := HSX.out wq HBq.out
        have KW5 : Hid (RowL w.heap.size wq (.slice p0 n0 c0) L) := own_below HRW.out HRq.out
        have KD5 : Hid (∀ y ∈ L, DtsAt wq y.2 y.1.2.2.2.2 ∧ In Q y.2) := fun y hy => ⟨(HDW.out y hy).1.below HRq.out, (HDW.out y hy).2⟩
        have HO5 : Hid (DtsAt wq (.slice ps ns cs) xs) := HDX.out wq HBq.out
        have HN6 : Hid (∀ j y, (flatO [(((xa, xb), xt, xp, xc, xs), Value.slice ps ns cs)])[j]? = some y → (wq.alloc (.cells #[.int .i64 xa, .int .i64 xb, .int .i64 xt, .string xp, .int .i64 xc, .slice ps ns cs] 30)).cell? ((⟨wq.heap.size, 0, none⟩ : Addr).add j) = some y) := op_new wq ((xa, xb), xt, xp, xc, xs) (.slice ps ns cs) 30
        have HSZ6 : Hid (∀ O1, w.heap.size ≤ (wq.alloc O1).heap.size) := fun O1 => by have := HBq.out.size; simp; omega
        have HBX : Hid (∀ O1, Below wq.heap.size wq (wq.alloc O1)) := fun O1 => (Below.refl _ _).alloc (Nat.le_refl _) O1
        have hcap1 : L.length + 1 ≤ maxLen := by have := HLK.out; unfold maxLen; omega
        have hcap2 : (L.length + 1) * 72 ≤ 140737488355328 := by have := HLK.out; omega
        go_wp2_with (at_builtin; refine wpList_append_own_at _ rfl (.tmp 30) (.tmp 35) 22 rfl w.heap.size 30 i0 (.agg #[.int .i64 0, .int .i64 0, .int .i64 0, .string ⟨#[]⟩, .int .i64 0, .slice none 0 0]) 6 72 Tryz.underlying22 hi hz0 hz1 hzz2 rfl (by decide) (.slice p0 n0 c0) L.length (flatO L) rfl (World.ownsRow.alloc KW5.out _) ⟨wq.heap.size, 0, none⟩ 1 1 (flatO [(((xa, xb), xt, xp, xc, xs), Value.slice ps ns cs)]) rfl rfl HN6.out (op_one _ _ rfl) hcap1 hcap2 (HSZ6.out _) ?_; intro v9 w9 hown9 hgrow9 _ hat9; have KW9 : Hid (RowL w.heap.size w9 v9 (L ++ [(((xa, xb), xt, xp, xc, xs), Value.slice ps ns cs)])) := own_app rfl rfl hown9; have K9 : Hid (Below w.heap.size w w9) := own_grow KW5.out (HBq.out.alloc HBq.out.size _) hgrow9 (HSZ6.out _); have KD9 : Hid (∀ y ∈ L ++ [(((xa, xb), xt, xp, xc, xs), Value.slice ps ns cs)], DtsAt w9 y.2 y.1.2.2.2.2 ∧ In Q y.2) := (fun y hy => by (rcases List.mem_append.1 hy with hy | hy); (exact ⟨dots_grow (own_below KW5.out (HBX.out _)) ((KD5.out y hy).1.below (HBX.out _)) (KD5.out y hy).2 HQ.out (HSZ6.out _) hgrow9, (KD5.out y hy).2⟩); (rw [List.mem_singleton.1 hy]; exact ⟨dots_grow (own_below KW5.out (HBX.out _)) (HO5.out.below (HBX.out _)) HIX.out HQ.out (HSZ6.out _) hgrow9, HIX.out⟩)); obtain ⟨p9, N9, c9, hv9, _⟩ := own_shape KW9.out; subst hv9; clear hown9 hgrow9 hat9)
        go_roundw
        case rel => exact ⟨k + 1, L ++ [(((xa, xb), xt, xp, xc, xs), Value.slice ps ns cs)], by omega, by go_num, ⟨_, _, _, rfl⟩, by unfold Hid; rw [List.length_append]; have := HLK.out; simp; omega, KW9, KD9, by unfold Hid; rw [HL2.out, List.map_append, HLM.out]; rfl, K9⟩
        case measure => simp [intOf]; omega
      · have hqb : decide (qv < xb) = false := decide_eq_false hq
        have HL2 : Hid (lackL (l.take (k + 1)) v = lackL (l.take k) v) := by
          unfold Hid; rw [HST.out, HLX.out, decide_eq_true (by omega)]; simp
        clear HST HLX
        have hq2 : ¬ qv < xb := hq
        clear hq
        go_wp2_with fail
        go_quiet (fail)
        generalize hwq : World.drewN _ _ = wq
        have HBq : Hid (Below w.heap.size w wq) := by rw [← hwq]; exact bel_drew HB.out _
        have HRq : Hid (Below wr.heap.size wr wq) := by rw [← hwq]; exact bel_drew (Below.refl _ _) _
        clear hwq a0 a1 a2 a3 a4 a5 xk
        go_wp2_with fail
        go_roundw
        case rel => exact ⟨k + 1, L, by omega, by go_num, ⟨_, _, _, rfl⟩, by unfold Hid; have := HLK.out; omega, own_below HRW.out HRq.out, fun y hy => ⟨(HDW.out y hy).1.below HRq.out, (HDW.out y hy).2⟩, by unfold Hid; rw [HL2.out, HLM.out], HBq⟩
        case measure => simp [intOf]; omega
    · obtain rfl : n = k := by omega
      have hltz : ¬ (n : Int) < n := by omega
      have htk : Hid (l.take n = l) := by unfold Hid; rw [← HN.out, List.take_length]
      go_wp2_with fail
      go_ret
      rw [htk.out] at HLM
      exact ⟨p0, n0, c0, rfl, by rw [← HLM.out]; exact OpsJ.own HRW.out HDW.out, HB.out⟩

end Ah
end Go.Proofs.YtpoijhfojdmdpaaGreatDoor
