/- The walk of CacheHolds: what is asked of package cache is a premise here. -/
import Derived.Test.YtekmdkfbdcamdaaFc
import Derived.Test.YtekmdkfbdcamdaaFe
import Derived.Test.YtekmdkfbdcamdaaFk
import Derived.Deep.DeepCutAuto
import Derived.Deep.RegionLaw
namespace Go.Proofs.Ytekmdkfbdcamdaa
namespace Ff
set_option linter.unusedVariables false
set_option linter.unusedSimpArgs false
open Go.ChangeShapes Go.WideShapes Go.ChangeAt Go.RowKit Ka Kb Ef Fc Fe
open Fb (Kp Inv names used turn getS get? loadS loadE getE)

theorem Hid.mk' {p : Prop} (h : p) : Hid p := h
/- the call of a function of three arguments, at a step of a region that draws -/
theorem step_call3 {ops : Array Oper} {o : Oper} {a : Act} {W : World} {K : Act → World → Prop} {Q : Exit → Act → World → Prop} {E : Prop} {R : Value → World → Prop} (hgd : o.guard = none) (F : FuncId) (x y z : Operand) (T U V : TypeId)
    (ho : o.op = .call { callee := .value (.func F), args := #[x, y, z], argTypes := #[T, U, V] }) (v0 v1 v2 : Value) (hx : a.eval x = v0) (hy : a.eval y = v1) (hz : a.eval z = v2) (hcf : ∀ args W, (callFunc F args).run Try.prog W = .ok (.enter F args) W) (hC : Calls Try.prog F #[v0, v1, v2] W fun e w' => ∃ v, e = .returned v ∧ R v w')
    (h : ∀ v w', R v w' → K (a.put o.dst v) w') :
    if Region.wanted o (yielded ops a.tmps) = true then Oper.wp Try.prog o a W K Q else E := by
  have hw : Region.wanted o (yielded ops a.tmps) = true := by simp [Region.wanted, hgd]
  rw [if_pos hw]
  have hr : (execOp a.eval o).run Try.prog W = .ok (.enter F #[v0, v1, v2]) W := by
    have he : a.eval (.func F) = .func (.func F) #[] #[] := rfl
    unfold execOp
    simp only [ho, resolve, invoke, List.map_toArray, List.map_cons, List.map_nil, hx, hy, hz, he]
    exact hcf _ _
  unfold Oper.wp
  rw [hr, Oper.upon_enter]
  refine hC.mono ?_
  rintro e w' ⟨v, rfl, hR⟩
  exact h v w' hR
theorem enter_load (args : Array Value) (W : World) : (callFunc 5 args).run Try.prog W = .ok (.enter 5 args) W := by
  first | kernel_rfl | simp [callFunc, go_sem, Try.func5]
theorem neq_self {d : ByteArray} : (d.toList == d.toList) = true := by simp

set_option maxRecDepth 100000 in
set_option maxHeartbeats 8000000 in
theorem walk (L : CacheSays) (bu : Int) (vp : Value) (P : List ByteArray) (vt : Value) (T : List ByteArray) (w : World) (hp : Fk.Txts w vp P) (ht : Fk.Txts w vt T) :
    Calls Try.prog 3 #[.int .i64 bu, vp, vt] w fun e w' => e = .returned (.bool true) ∧ Below w.heap.size w w' := by
  obtain ⟨⟨pp, cp, rfl, hpk, hpl, hpm, _⟩, hps⟩ := hp
  obtain ⟨⟨pt, ct, rfl, htk, htl, htm, _⟩, hts⟩ := ht
  obtain ⟨np, hnp⟩ : ∃ np, np = P.length := ⟨_, rfl⟩
  obtain ⟨nt, hnt⟩ : ∃ nt, nt = T.length := ⟨_, rfl⟩
  have hnpm : (np : Int) ≤ 9223372036854775807 := by unfold maxLen at hpm; omega
  have hntm : (nt : Int) ≤ 9223372036854775807 := by unfold maxLen at htm; omega
  rw [← hnp, ← hnt]
  have HNP := Hid.mk' hnp
  have HNT := Hid.mk' hnt
  have HPK := Hid.mk' hpk
  have HTK := Hid.mk' htk
  have HPS := Hid.mk' hps
  have HTS := Hid.mk' hts
  clear hpk hpl hpm htk htl htm hnp hnt hps hts
  go_enter Try.func3, Try.ntmps3
  go_wp2_with fail
  refine (new_ok L 3 w rfl).mono ?_
  rintro e w1 ⟨X0, F0, rfl, h0, hf0, hb1⟩
  have HC1 : Hid (Cc L w w1 X0 3 [] F0) := ⟨h0, hf0, hb1⟩
  have C1 := L.load X0 3 [] F0 nb ab w1 h0 ⟨by decide, by decide⟩ (by unfold maxLen; decide) (by unfold maxLen; decide)
  rw [o1.1, o2, errV_zero] at C1
  clear h0 hf0 hb1
  go_wp2_with fail
  refine C1.mono ?_
  rintro e w2 ⟨rfl, hl2⟩
  obtain ⟨F2, hC2⟩ := HC1.out.set hl2
  have HC2 := Hid.mk' hC2
  have C2 := L.load X0 3 [(nb, ab)] F2 ob cd w2 hC2.at' ⟨by decide, by decide⟩ (by unfold maxLen; decide) (by unfold maxLen; decide)
  rw [o1.2, o3, errV_zero] at C2
  clear hl2 hC2 C1 HC1
  go_wp2_with fail
  refine C2.mono ?_
  rintro e w3 ⟨rfl, hl3⟩
  obtain ⟨F3, hC3⟩ := HC2.out.set hl3
  have HC3 := Hid.mk' hC3
  have C3 := L.places X0 3 [(ob, cd)] F3 w3 hC3.at' ⟨by decide, by decide⟩
  clear hl3 hC3 C2 HC2
  go_wp2_with fail
  refine C3.mono ?_
  rintro e w4 ⟨p4, n4, c4, rfl, ht4, hb4⟩
  obtain rfl : n4 = 1 := by obtain ⟨_, _, e, _⟩ := ht4; injection e
  have HB4 : Hid (Below w.heap.size w w4) := Ef.bel HC3.out.bel hb4
  clear ht4 hb4 C3 HC3
  go_wp2_with fail
  by_cases hbu : bu < 1 ∨ 10000 < bu
  · refine (new_no L bu w4 hbu).mono ?_
    rintro e w5 ⟨rfl, hb5⟩
    have HB5 : Hid (Below w.heap.size w w5) := Ef.bel HB4.out hb5
    clear hb5
    rcases (show bu < 1 ∨ (¬ bu < 1 ∧ 10000 < bu) by omega) with h1 | ⟨h1, h2⟩
    · clear hbu
      go_wp2_with fail
      go_ret
      exact ⟨rfl, HB5.out⟩
    · clear hbu
      go_wp2_with fail
      go_ret
      exact ⟨rfl, HB5.out⟩
  · refine (new_ok L bu w4 (by unfold Fb.newE; rw [if_neg hbu])).mono ?_
    rintro e w5 ⟨X, F5, rfl, h5, hf5, hb5⟩
    obtain ⟨b, hb⟩ : ∃ b : Nat, bu = b := ⟨bu.toNat, by omega⟩
    subst hb
    have HC5 : Hid (Cc L w w5 X b [] F5) := ⟨h5, fun g hg => Nat.le_trans HB4.out.size (hf5 g hg), Ef.bel HB4.out hb5⟩
    have hb9 : b ≤ 10000 := by omega
    clear h5 hf5 hb5 hbu HB4
    go_wp2_with fail
    go_loopw [11] (fun v11 wr => ∃ (i : Nat) (m : List Kp) (F : Nat → Prop), i ≤ 60 ∧ i ≤ np ∧ v11 = .int .i64 i ∧ Hid (m.length ≤ i) ∧ Hid (∀ q ∈ names m, q.size ≤ maxLen) ∧ Hid (Cc L w wr X b m F)) (fun v11 _ => 100 - (intOf v11).toNat)
    case atStart => exact ⟨0, [], F5, by omega, by omega, rfl, Nat.le_refl _, fun q hq => (by cases hq), HC5.out⟩
    case round =>
      obtain ⟨i, m, F, hi, hin, rfl, HM, HQ, HC⟩ := hrel
      by_cases hall : i < np ∧ i < nt ∧ i < 60
      · obtain ⟨h1, h2, h3⟩ := hall
        have h1z : (i : Int) < np := by omega
        have h2z : (i : Int) < nt := by omega
        have h3z : (i : Int) < 60 := by omega
        obtain ⟨bp, op, rfl, _, hpc⟩ := HPK.out.some (by intro e; have h9 := HNP.out; rw [e] at h9; simp at h9; omega)
        obtain ⟨bt, ot, rfl, _, htc⟩ := HTK.out.some (by intro e; have h9 := HNT.out; rw [e] at h9; simp at h9; omega)
        obtain ⟨p, hpp⟩ : ∃ p, p = P.getD i Ec.e0 := ⟨_, rfl⟩
        obtain ⟨s, hss⟩ : ∃ s, s = T.getD i Ec.e0 := ⟨_, rfl⟩
        have HPW : Hid (∀ W, Below w.heap.size w W → W.cell? ⟨bp, op + i, none⟩ = some (.string p)) := fun W hb => by rw [hpp]; exact keep_cell hb (hpc i (by rw [← HNP.out]; exact h1))
        have HTW : Hid (∀ W, Below w.heap.size w W → W.cell? ⟨bt, ot + i, none⟩ = some (.string s)) := fun W hb => by rw [hss]; exact keep_cell hb (htc i (by rw [← HNT.out]; exact h2))
        have HPZ : Hid (p.size ≤ maxLen) := by rw [Hid, hpp, List.getD_eq_getElem?_getD, List.getElem?_eq_getElem (by rw [← HNP.out]; exact h1)]; exact HPS.out _ (List.getElem_mem _)
        have HSZ : Hid (s.size ≤ maxLen) := by rw [Hid, hss, List.getD_eq_getElem?_getD, List.getElem?_eq_getElem (by rw [← HNT.out]; exact h2)]; exact HTS.out _ (List.getElem_mem _)
        have c1 := HPW.out wr HC.out.bel
        have c2 := HTW.out wr HC.out.bel
        have HFT : Hid (Fit b m) := ⟨hb9, by have := HM.out; omega⟩
        clear hpc htc hpp hss h1 h2 h3
        go_wp2_with fail
        go_region_law (
          (refine step_call3 (R := fun v w' => v = errV (loadE b p s) ∧ ∃ F', L.At w' X b (loadS b p s m) F' ∧ Chg F wr w' ∧ ∀ g, F' g → F g ∨ wr.heap.size ≤ g) (by rfl) 5 (.tmp 72) (.tmp 76) (.tmp 80) _ _ _ (by rfl) _ _ _ (by rfl) (by rfl) (by rfl) enter_load ((L.load X b m F p s wr.drew (L.below HC.out.at' (Below.refl _ _).drew) HFT.out HPZ.out HSZ.out).mono (by rintro e w' ⟨rfl, F', g1, g2, g3⟩; exact ⟨_, rfl, rfl, F', g1, ⟨g2.os, g2.tape, g2.output, g2.size, g2.block⟩, g3⟩)) ?_; rintro v6 w6 ⟨rfl, hl6⟩; obtain ⟨F6, hC6⟩ := HC.out.set hl6; have HC6 := Hid.mk' hC6; clear hl6 hC6))
        all_goals
          clear c1 c2
          have HI1 : Hid (Inv b (loadS b p s m)) := Fb.inv_loadS (L.inv HC.out.at')
          have HM1 : Hid ((loadS b p s m).length ≤ i + 1) := Nat.le_trans (loadS_len b p s m) (by have := HM.out; omega)
          have HQ1 : Hid (∀ q ∈ names (loadS b p s m), q.size ≤ maxLen) := fun q hq => by
            rcases loadS_mem hq with e | e
            · exact HQ.out q e
            · rw [e]; exact HPZ.out
          have HLD : Hid (loadE b p s = 0 → Ld b p s (loadS b p s m)) := fun he => loaded (L.inv HC.out.at') he
          obtain ⟨m1, hm1⟩ : ∃ m1, m1 = loadS b p s m := ⟨_, rfl⟩
          rw [← hm1] at HI1 HM1 HQ1 HLD HC6
          have HF1 : Hid (Fit b m1) := ⟨hb9, by have := HM1.out; omega⟩
          obtain ⟨u1, hu1⟩ : ∃ u1, u1 = used m1 := ⟨_, rfl⟩
          have CU := L.used X b m1 F6 w6 HC6.out.at' HF1.out
          rw [← hu1] at CU
          have hub : u1 ≤ b := by rw [hu1]; exact HI1.out.le
          have hubz : ¬ (b : Int) < u1 := by omega
          have HU1 := Hid.mk' hu1
          clear hm1 hu1 HC HM HQ HFT
          by_cases he : loadE b p s = 0
          · have LD := HLD.out he
            have HLD2 := Hid.mk' LD
            rw [he, errV_zero]
            clear LD HLD he
            go_wp2_with fail
            refine CU.mono ?_
            rintro e w7 ⟨rfl, hb7⟩
            have HC7 := Hid.mk' (HC6.out.below hb7)
            have C := L.places X b m1 F6 w7 HC7.out.at' HF1.out
            clear hb7 CU HC6
            go_wp2_with fail
            refine C.mono ?_
            rintro e w8 ⟨p8, n8, c8, rfl, ht8, hb8⟩
            have HC8 := Hid.mk' (HC7.out.below hb8)
            have HN8 : Hid (n8 = m1.length) := by obtain ⟨_, _, e, _⟩ := ht8; injection e with _ e _; rw [Hid, e]; unfold names; simp
            have HR8 : Hid (∀ g, New w7.heap.size w8 g → ¬ F6 g) := fun g hg e => by have h1 := L.lt HC7.out.at' g e; have h2 := hg.1; omega
            have HT8 := Hid.mk' ht8
            clear ht8 hb8 C HC7
            obtain ⟨j, hj⟩ : ∃ j : Nat, j = n8 - 1 := ⟨_, rfl⟩
            have hn8 : 1 ≤ n8 := by have h1 := HN8.out; have h2 := HLD2.out.pos; omega
            have hn8b : n8 ≤ 100 := by have h1 := HN8.out; have h2 := HM1.out; omega
            have hjz : (j : Int) < n8 := by omega
            have hwj : IntKind.i64.wrap ((n8 : Int) - 1) = (j : Int) := by rw [IntKind.wrap_i64]; omega
            obtain ⟨b8, o8, rfl, hcc⟩ : ∃ b o, p8 = some ⟨b, o, none⟩ ∧ Hid (New w7.heap.size w8 b ∧ ∀ q, q < m1.length → w8.cell? ⟨b, o + q, none⟩ = some (.string ((names m1).getD q Ec.e0))) := by
              obtain ⟨p9, c9, e9, h9, _⟩ := HT8.out
              injection e9 with e9 _ _
              obtain ⟨b, o, hp, hR, hc⟩ := h9.some (by intro e; have h1 := congrArg List.length e; unfold names at h1; simp at h1; have h2 := HLD2.out.pos; rw [h1] at h2; simp at h2)
              exact ⟨b, o, by rw [e9]; exact hp, hR, fun q hq => hc q (by unfold names; simp; exact hq)⟩
            have d1 : w8.cell? ⟨b8, o8 + j, none⟩ = some (.string p) := by
              rw [hcc.out.2 j (by have h1 := HN8.out; omega)]
              have h2 := HLD2.out.last
              rw [← HN8.out, ← hj] at h2
              have h3 : (names m1).getD j Ec.e0 = p := h2
              rw [h3]
            have d2 := HPW.out w8 HC8.out.bel
            clear hj
            go_wp2_with fail
            go_quiet (fail)
            generalize hw9 : World.drewN w8 _ = w9
            have HB9 : Hid (Below w8.heap.size w8 w9) := by rw [Hid, ← hw9]; exact bel_drew (Below.refl _ _) _
            have HC9 := Hid.mk' (HC8.out.below HB9.out)
            have HT9 : Hid (TxJ (New w7.heap.size w8) w9 (.slice (some ⟨b8, o8, none⟩) n8 c8) (names m1)) := HT8.out.below HB9.out
            have HR9 : Hid (∀ g, New w7.heap.size w8 g → g < w9.heap.size) := fun g hg => Nat.lt_of_lt_of_le hg.2 HB9.out.size
            have d3 := HPW.out w9 HC9.out.bel
            have CG := L.get X b m1 F6 p w9 HC9.out.at' HF1.out HPZ.out
            rw [show (get? p m1).getD Fb.e0 = s by rw [HLD2.out.got]; rfl, show getE p m1 = 0 by unfold getE; rw [if_neg (by rw [HLD2.out.got]; simp)], HLD2.out.same, errV_zero] at CG
            clear hw9 d1 d2 hwj HC8 HT8 HB9 hcc
            go_wp2_with fail
            refine CG.mono ?_
            rintro e w10 ⟨rfl, F10', hx10, hc10, hg10⟩
            have HT10 : Hid (TxJ (New w7.heap.size w8) w10 (.slice (some ⟨b8, o8, none⟩) n8 c8) (names m1)) := HT9.out.stay (hc10.stay fun g hg => ⟨HR9.out g hg, HR8.out g hg⟩)
            have HR10 : Hid (∀ g, New w7.heap.size w8 g → g < w10.heap.size) := fun g hg => Nat.lt_of_lt_of_le (HR9.out g hg) hc10.size
            have HR11 : Hid (∀ g, New w7.heap.size w8 g → ¬ F10' g) := fun g hg e => by
              rcases hg10 g e with e | e
              · exact HR8.out g hg e
              · have := HR9.out g hg; omega
            have HC10 : Hid (Cc L w w10 X b (turn m1 0) F10') := by
              rw [Hid, Fb.turn_zero]
              refine ⟨hx10, fun g e => ?_, hc10.below HC9.out.low HC9.out.bel HC9.out.bel.size⟩
              rcases hg10 g e with e | e
              · exact HC9.out.low g e
              · have := HC9.out.bel.size; omega
            have d4 := HTW.out w10 HC10.out.bel
            clear hx10 hc10 hg10 CG d3 HC9 HT9 HR9 HR8
            go_wp2_with fail
            go_loopw [16, 17] (fun v16 v17 wr => ∃ (k u : Nat) (Fk : Nat → Prop), k ≤ n8 ∧ v17 = .int .i64 k ∧ v16 = .int .i64 u ∧ u ≤ 10000 ∧ Hid (u = used (m1.take k)) ∧ Hid (Cc L w wr X b (turn m1 k) Fk) ∧ Hid (TxJ (New w7.heap.size w8) wr (.slice (some ⟨b8, o8, none⟩) n8 c8) (names m1)) ∧ Hid (∀ g, New w7.heap.size w8 g → g < wr.heap.size ∧ ¬ Fk g)) (fun _ v17 _ => 1000 - (intOf v17).toNat)
            case atStart => exact ⟨0, 0, F10', by omega, rfl, rfl, by omega, rfl, HC10.out, HT10.out, fun g hg => ⟨HR10.out g hg, HR11.out g hg⟩⟩
            case round =>
              obtain ⟨k, u, Fk, hk, rfl, rfl, hu, HU, HCk, HTk, HRk⟩ := hrel
              by_cases hkn : k < n8
              · have hkz : (k : Int) < n8 := by omega
                have hkl : k < m1.length := by rw [← HN8.out]; exact hkn
                obtain ⟨t1, t2⟩ := Fb.turn_next HI1.out.nd hkl
                have dk : wr.cell? ⟨b8, o8 + k, none⟩ = some (.string (m1[k]).1) := by
                  obtain ⟨p9, c9, e9, h9, _⟩ := HTk.out
                  injection e9 with e9 _ _
                  rcases h9 with h9 | ⟨b', o', hp', _, hc'⟩
                  · have h1 := congrArg List.length h9; unfold names at h1; simp at h1; rw [h1] at hkl; simp at hkl
                  · rw [← e9] at hp'
                    injection hp' with hp'
                    injection hp' with e1 e2
                    rw [e1, e2, hc' k (by unfold names; simp; exact hkl), List.getD_eq_getElem?_getD]
                    unfold names
                    rw [List.getElem?_map, List.getElem?_eq_getElem hkl]
                    rfl
                obtain ⟨x, hx⟩ : ∃ x, x = m1[k] := ⟨_, rfl⟩
                have HUT := Hid.mk' (used_take hkl)
                rw [← hx] at t1 t2 dk HUT
                obtain ⟨xp, xt⟩ := x
                simp only at t1 t2 dk
                have HXZ : Hid (xp.size ≤ maxLen) := HQ1.out xp (List.mem_map.2 ⟨(xp, xt), by rw [hx]; exact List.getElem_mem _, rfl⟩)
                have CG := L.get X b (turn m1 k) Fk xp wr HCk.out.at' ⟨hb9, by rw [turn_len]; exact HF1.out.2⟩ HXZ.out
                rw [show (get? xp (turn m1 k)).getD Fb.e0 = xt by rw [t1]; rfl, show getE xp (turn m1 k) = 0 by unfold getE; rw [if_neg (by rw [t1]; simp)], t2, errV_zero] at CG
                have hsum : u + xt.size ≤ 10000 := by have h1 := HU.out; have h2 := HUT.out; have h3 := used_part (m := m1) (k + 1); have h4 := HI1.out.le; simp only at h2; omega
                clear t1 t2 hx
                go_wp2_with fail
                refine CG.mono ?_
                rintro e w11 ⟨rfl, F11, hx11, hc11, hg11⟩
                have HT11 : Hid (TxJ (New w7.heap.size w8) w11 (.slice (some ⟨b8, o8, none⟩) n8 c8) (names m1)) := HTk.out.stay (hc11.stay fun g hg => HRk.out g hg)
                have HR11' : Hid (∀ g, New w7.heap.size w8 g → g < w11.heap.size ∧ ¬ F11 g) := fun g hg => ⟨Nat.lt_of_lt_of_le (HRk.out g hg).1 hc11.size, fun e => by
                  rcases hg11 g e with e | e
                  · exact (HRk.out g hg).2 e
                  · have := (HRk.out g hg).1; omega⟩
                have HC11 : Hid (Cc L w w11 X b (turn m1 (k + 1)) F11) := by
                  refine ⟨hx11, fun g e => ?_, hc11.below HCk.out.low HCk.out.bel HCk.out.bel.size⟩
                  rcases hg11 g e with e | e
                  · exact HCk.out.low g e
                  · have := HCk.out.bel.size; omega
                clear hx11 hc11 hg11 CG dk HCk HTk HRk
                go_wp2_with fail
                go_roundw
                case rel => exact ⟨k + 1, u + xt.size, F11, by omega, by go_num, by go_num, hsum, by rw [Hid]; have h1 := HU.out; have h2 := HUT.out; (try simp only at h2); omega, HC11.out, HT11.out, HR11'.out⟩
                case measure => simp [intOf]; omega
              · have hkz : ¬ (k : Int) < n8 := by omega
                obtain rfl : k = n8 := by omega
                have HCe : Hid (Cc L w wr X b m1 Fk) := by have h1 := HCk.out; rw [HN8.out, Fb.turn_all] at h1; exact h1
                have HUe : Hid (u = u1) := by rw [Hid, HU.out, HU1.out, HN8.out, List.take_length]
                have C := L.places X b m1 Fk wr HCe.out.at' HF1.out
                clear HCk HU
                go_wp2_with fail
                refine C.mono ?_
                rintro e w12 ⟨p12, n12, c12, rfl, ht12, hb12⟩
                have HC12 := Hid.mk' (HCe.out.below hb12)
                have CT := texts_any (.slice p12 n12 c12) (.slice (some ⟨b8, o8, none⟩) k c8) (names m1) (names m1) w12 _ _ ht12 (HTk.out.below hb12) (by unfold names; rw [List.length_map]; have := HM1.out; omega)
                rw [decide_eq_true rfl] at CT
                clear ht12 hb12 C HCe
                go_wp2_with fail
                refine CT.mono ?_
                rintro e w13 ⟨rfl, hb13⟩
                have HC13 := Hid.mk' (HC12.out.below hb13)
                have CU := L.used X b m1 Fk w13 HC13.out.at' HF1.out
                rw [← HU1.out, ← HUe.out] at CU
                clear hb13 CT HC12
                go_wp2_with fail
                refine CU.mono ?_
                rintro e w14 ⟨rfl, hb14⟩
                have HC14 := Hid.mk' (HC13.out.below hb14)
                clear hb14 CU HC13
                go_wp2_with fail
                go_roundw
                case rel => exact ⟨i + 1, m1, Fk, by omega, by omega, by go_num, HM1.out, HQ1.out, HC14.out⟩
                case measure => simp [intOf]; omega
          · rw [errV_ne he]
            go_wp2_with fail
            refine CU.mono ?_
            rintro e w7 ⟨rfl, hb7⟩
            have HC7 := Hid.mk' (HC6.out.below hb7)
            clear hb7 CU HC6 he HLD
            go_wp2_with fail
            go_roundw
            case rel => exact ⟨i + 1, m1, F6, by omega, by omega, by go_num, HM1.out, HQ1.out, HC7.out⟩
            case measure => simp [intOf]; omega
      · rcases (show ¬ i < np ∨ (i < np ∧ ¬ i < nt) ∨ (i < np ∧ i < nt ∧ ¬ i < 60) by omega) with h1 | ⟨h1, h2⟩ | ⟨h1, h2, h3⟩
        · have h1z : ¬ (i : Int) < np := by omega
          clear hall
          go_wp2_with fail
          go_ret
          exact ⟨rfl, HC.out.bel⟩
        · have h1z : (i : Int) < np := by omega
          have h2z : ¬ (i : Int) < nt := by omega
          clear hall
          go_wp2_with fail
          go_ret
          exact ⟨rfl, HC.out.bel⟩
        · have h1z : (i : Int) < np := by omega
          have h2z : (i : Int) < nt := by omega
          have h3z : ¬ (i : Int) < 60 := by omega
          clear hall
          go_wp2_with fail
          go_ret
          exact ⟨rfl, HC.out.bel⟩

end Ff
end Go.Proofs.Ytekmdkfbdcamdaa
