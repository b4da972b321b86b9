/- The reference's End: Out. -/
import Derived.Test.YtaicacnijlneaaaDoorEt
import Derived.Test.YtaicacnijlneaaaDoorEr
namespace Go.Proofs.YtaicacnijlneaaaDoor
namespace Eu
set_option linter.unusedVariables false
set_option linter.unusedSimpArgs false
open Go.ChangeShapes Go.WideShapes Go.ChangeAt Go.RowKit Ka Kb Ec Ef Eg En Eo Et
open Em (wrap_in at_new text_new Hid.mk' eight)
open Er (bel_dn row_some)

/- which ones of the first i of the window are said -/
def sel (k s : Nat) (lt : Bool) (i : Nat) : List Nat := (List.range' (k + 1) i).filter fun n => decide (s < n) || lt
theorem sel_put (k s : Nat) (lt : Bool) (i : Nat) : sel k s lt (i + 1) = sel k s lt i ++ (if (decide (s < k + i + 1) || lt) = true then [k + i + 1] else []) := by
  unfold sel
  rw [List.range'_concat, List.filter_append]
  congr 1
  rw [show k + 1 + 1 * i = k + i + 1 by omega, List.filter_cons]
  split <;> rfl
theorem sel_len (k s : Nat) (lt : Bool) (i : Nat) : (sel k s lt i).length ≤ i := by
  unfold sel
  have := List.length_filter_le (fun n => decide (s < n) || lt) (List.range' (k + 1) i)
  rw [List.length_range'] at this
  exact this
def tk (k s : Nat) (lt : Bool) (t i : Nat) : Nat := if sel k s lt i = [] then t else 0
theorem tk_yes {k s : Nat} {lt : Bool} {t i : Nat} (h : (decide (s < k + i + 1) || lt) = true) : tk k s lt t (i + 1) = 0 := by
  unfold tk
  rw [sel_put, if_pos h, if_neg (by simp)]
theorem tk_no {k s : Nat} {lt : Bool} {t i : Nat} (h : (decide (s < k + i + 1) || lt) = false) : tk k s lt t (i + 1) = tk k s lt t i ∧ sel k s lt (i + 1) = sel k s lt i := by
  have e : sel k s lt (i + 1) = sel k s lt i := by rw [sel_put, h]; simp
  unfold tk
  rw [e]; exact ⟨rfl, rfl⟩

set_option maxHeartbeats 8000000 in
set_option maxRecDepth 100000 in
theorem rout_raw (M : Nat) (w : World) (wi wa k s t : Nat) (u g : Value) (o lt : Bool) (all lg : List ByteArray) (m : Raw w M wi wa u k s t g o all lg) (hks : k ≤ s) (hsa : s ≤ all.length) (ha : all.length ≤ 1000) (hg : lg.length ≤ 1000) (hw : wi ≤ 16) (hlt : lt = decide (wa ≤ t)) (cnt : Nat) (hcnt : cnt = min (k + wi) all.length - k) :
    Calls Tryd.prog 7 #[ptr M] w fun e w' => ∃ v, e = .returned v ∧ RowF w.heap.size w' v ((if o = true then [(true, (lg.length : Int), e0)] else []) ++ (sel k s lt cnt).map (frame all)) ∧ Raw w' M wi wa u k (max s (k + cnt) : Nat) (tk k s lt t cnt) g false all lg ∧ Chg (Fs M u g) w w' := by
  obtain ⟨PRE, hPRE⟩ : ∃ PRE : List Fr, PRE = if o = true then [(true, (lg.length : Int), e0)] else [] := ⟨_, rfl⟩
  rw [← hPRE]
  obtain ⟨i0, hi0, hz0, hz1, hz2⟩ := info_parts infoF
  obtain ⟨pu, n, cu, rfl, hn⟩ := own_shape m.ru
  obtain ⟨pg, ng, cg, rfl, hng⟩ := own_shape m.rg
  have HN : Hid (n = all.length) := hn
  have hn9 : n ≤ 1000 := by rw [HN.out]; omega
  have HNG : Hid (ng = lg.length) := hng
  have hng9 : ng ≤ 1000 := by rw [HNG.out]; exact hg
  have c7 := blk_cell m.blk (i := 7) (u := .bool o) rfl
  have c6 := blk_cell m.blk (i := 6) (u := .slice pg ng cg) rfl
  have HM := Hid.mk' m
  have HPRE := Hid.mk' hPRE
  have HCN := Hid.mk' hcnt
  have hk9 : k ≤ 1000 := by omega
  have HKA : Hid (k ≤ s ∧ s ≤ all.length ∧ all.length ≤ 1000 ∧ wi ≤ 16) := ⟨hks, hsa, ha, hw⟩
  have HXW : Hid (M < w.heap.size) := m.lt M (Or.inl rfl)
  have HAP : Hid (∀ k, Fs M (.slice pu n cu) (.slice pg ng cg) k → ¬ w.heap.size ≤ k) := fun k hk => by have := m.lt k hk; omega
  have HLT := Hid.mk' hlt
  clear m hPRE hcnt hks hsa ha hg hn hng hlt
  cases o
  case' false =>
    have HP0 : Hid (PRE = []) := by rw [Hid, HPRE.out, if_neg (by decide)]
    clear HPRE
    go_enter Tryd.func7, Tryd.ntmps7
    go_wp2_with fail
    generalize hw2 : w = w2
    obtain ⟨pv, nv, cv, hpv⟩ : ∃ (pv : Option Addr) (nv cv : Nat), Value.slice pv nv cv = Value.slice none 0 0 := ⟨none, 0, 0, rfl⟩
    rw [← hpv]
    have HM2 : Hid (Raw w2 M wi wa (.slice pu n cu) k s t (.slice pg ng cg) false all lg) := by rw [Hid, ← hw2]; exact HM.out
    have HC2 : Hid (Chg (Fs M (.slice pu n cu) (.slice pg ng cg)) w w2) := by rw [Hid, ← hw2]; exact Chg.refl _ _
    have HV2 : Hid (RowF w.heap.size w2 (.slice pv nv cv) PRE) := by rw [Hid, ← hw2, hpv, HP0.out]; exact ⟨rfl, Or.inl ⟨rfl, rfl⟩⟩
    have HPL : Hid (PRE.length ≤ 1) := by rw [Hid, HP0.out]; exact Nat.zero_le _
    clear hw2 hpv HP0 HM c7 c6
  case' true =>
    have HP0 : Hid (PRE = [(true, (ng : Int), e0)]) := by rw [Hid, HPRE.out, if_pos rfl, HNG.out]
    clear HPRE
    have HOA : Hid ((w.alloc (.cells #[.bool true, .int .i64 ng, .string ⟨#[]⟩] 38)).ownsRow w.heap.size 38 3 (.slice none 0 0) 0 (flatF [])) := ⟨rfl, Or.inl ⟨rfl, rfl⟩⟩
    have HFN := Hid.mk' (frame_new w (true, (ng : Int), ⟨#[]⟩) 38)
    have HBA : Hid (Below w.heap.size w (w.alloc (.cells #[.bool true, .int .i64 ng, .string ⟨#[]⟩] 38))) := below_al _ _
    go_enter Tryd.func7, Tryd.ntmps7
    go_wp2_with (at_builtin; refine wpList_append_own_at _ rfl (.tmp 10) (.tmp 17) 24 rfl w.heap.size 38 i0 (.agg #[.bool false, .int .i64 0, .string ⟨#[]⟩]) 3 32 Tryd.underlying24 hi0 hz0 hz1 hz2 rfl (by decide) (.slice none 0 0) 0 (flatF []) rfl HOA.out ⟨w.heap.size, 0, none⟩ 1 1 (flatF [(true, (ng : Int), ⟨#[]⟩)]) rfl rfl HFN.out (frames_one _) (by unfold maxLen; omega) (by omega) HBA.out.size ?_; intro v' w1 hown' hgrow _ hat; obtain ⟨pv, nv, cv, rfl, _⟩ := own_shape hown'; have HR1 : Hid (RowF w.heap.size w1 (.slice pv nv cv) [(true, (ng : Int), e0)]) := own_appF (a := []) (b := [(true, (ng : Int), e0)]) rfl rfl hown'; have HC1 : Hid (Below w.heap.size w w1) := HBA.out.grown hgrow HBA.out.size (by intro j hj; cases hj); have hb1 := (HM.out.below HC1.out).blk; have q1 := blk_cell hb1 (i := 7) (u := .bool true) rfl; have fq1 := blk_free hb1 (i := 7); clear hown' hgrow hat hb1)
    generalize hw2 : World.setCell w1 _ _ = w2
    have HM2 : Hid (Raw w2 M wi wa (.slice pu n cu) k s t (.slice pg ng cg) false all lg) := by rw [Hid, ← hw2]; exact (HM.out.below HC1.out).num rfl
    have HC2 : Hid (Chg (Fs M (.slice pu n cu) (.slice pg ng cg)) w w2) := by rw [Hid, ← hw2]; exact Chg.setCell (F := Fs M (.slice pu n cu) (.slice pg ng cg)) (Chg.ofBelow HC1.out _) (p := ⟨M, 7, none⟩) (Or.inl rfl) _
    have HV2 : Hid (RowF w.heap.size w2 (.slice pv nv cv) PRE) := by
      rw [Hid, ← hw2, HP0.out]
      exact own_stay HR1.out fun g hg => set_block _ _ _ _ (fun e => by
        have h1 := own_ge HR1.out g hg
        have h2 := HM.out.lt M (Or.inl rfl)
        have e2 : g = M := e
        omega)
    have HPL : Hid (PRE.length ≤ 1) := by rw [Hid, HP0.out]; exact Nat.le_refl _
    clear hw2 HP0 HM c7 c6 q1 fq1 HR1 HC1 HOA HFN HBA
  all_goals
    have d5 := blk_cell HM2.out.blk (i := 5) (u := .int .i64 t) rfl
    have d1 := blk_cell HM2.out.blk (i := 1) (u := .int .i64 wa) rfl
    have d3 := blk_cell HM2.out.blk (i := 3) (u := .int .i64 k) rfl
    go_quiet (fail)
    generalize hw3 : World.drewN w2 _ = w3
    have HB3 : Hid (Below w2.heap.size w2 w3) := by rw [Hid, ← hw3]; exact bel_dn _ _
    have HM3 : Hid (Raw w3 M wi wa (.slice pu n cu) k s t (.slice pg ng cg) false all lg) := HM2.out.below HB3.out
    have HC3 : Hid (Chg (Fs M (.slice pu n cu) (.slice pg ng cg)) w w3) := HC2.out.trans (Chg.ofBelow HB3.out _)
    have HV3 : Hid (RowF w.heap.size w3 (.slice pv nv cv) PRE) := own_below HV2.out HB3.out
    have e3 := blk_cell HM3.out.blk (i := 3) (u := .int .i64 k) rfl
    clear hw3 d5 d1 d3 HB3 HM2 HC2 HV2
    go_wp2_with fail
    rw [← HLT.out]
    obtain ⟨z0, hz00⟩ : ∃ z0 : Int, z0 = (k : Int) + 1 := ⟨_, rfl⟩
    rw [← hz00]
    have HZ0 := Hid.mk' hz00
    clear hz00 e3
    go_loopw [3, 5] (fun vo vs wr => ∃ (i : Nat) (p : Option Addr) (n9 c9 : Nat) (z : Int), i ≤ cnt ∧ vo = .slice p n9 c9 ∧ vs = .int .i64 z ∧ 0 < z ∧ z ≤ 2000 ∧ Hid (z = (k : Int) + 1 + i) ∧ Hid (RowF w.heap.size wr (.slice p n9 c9) (PRE ++ (sel k s lt i).map (frame all))) ∧ Hid (Raw wr M wi wa (.slice pu n cu) k (max s (k + i) : Nat) (tk k s lt t i) (.slice pg ng cg) false all lg) ∧ Hid (Chg (Fs M (.slice pu n cu) (.slice pg ng cg)) w wr)) (fun _ vs _ => 3000 - (intOf vs).toNat)
    case atStart => exact ⟨0, _, _, _, _, Nat.zero_le _, rfl, rfl, by rw [HZ0.out]; omega, by rw [HZ0.out]; omega, by rw [Hid, HZ0.out]; omega, by rw [Hid, show sel k s lt 0 = [] from rfl, List.map_nil, List.append_nil]; exact HV3.out, by rw [Hid, show max s (k + 0) = s by have := HKA.out; omega, show tk k s lt t 0 = t from rfl]; exact HM3.out, HC3.out⟩
    case round =>
      obtain ⟨i, p, n9, c9, z, hi9, rfl, rfl, hzlo, hzhi, HZ, HVr, HMr, HCr⟩ := hrel
      obtain ⟨sd, hsd⟩ : ∃ sd : Nat, sd = max s (k + i) := ⟨_, rfl⟩
      obtain ⟨ti, hti⟩ : ∃ ti : Nat, ti = tk k s lt t i := ⟨_, rfl⟩
      rw [← hsd, ← hti] at HMr
      have HSD := Hid.mk' hsd
      have HTI := Hid.mk' hti
      clear hsd hti
      have d0 := blk_cell HMr.out.blk (i := 0) (u := .int .i64 wi) rfl
      have d2 := blk_cell HMr.out.blk (i := 2) (u := .slice pu n cu) rfl
      have d3 := blk_cell HMr.out.blk (i := 3) (u := .int .i64 k) rfl
      have hwk : IntKind.i64.wrap ((k : Int) + wi) = (k : Int) + wi := wrap_in (by omega) (by omega)
      by_cases hz1' : z ≤ (k : Int) + wi
      · by_cases hz2' : z ≤ n
        · have hb1 : decide (z ≤ (k : Int) + wi) = true := decide_eq_true hz1'
          have hb2 : decide (z ≤ (n : Int)) = true := decide_eq_true hz2'
          have HI : Hid (i < cnt) := by have h1 := HZ.out; have h2 := HCN.out; have h3 := HN.out; rw [Hid]; omega
          clear hz1'
          go_wp2_with fail
          go_quiet (fail)
          generalize hw4 : World.drewN wr _ = w4
          have HB4 : Hid (Below wr.heap.size wr w4) := by rw [Hid, ← hw4]; exact bel_dn _ _
          have HM4 : Hid (Raw w4 M wi wa (.slice pu n cu) k sd ti (.slice pg ng cg) false all lg) := HMr.out.below HB4.out
          have HC4 : Hid (Chg (Fs M (.slice pu n cu) (.slice pg ng cg)) w w4) := HCr.out.trans (Chg.ofBelow HB4.out _)
          have HV4 : Hid (RowF w.heap.size w4 (.slice p n9 c9) (PRE ++ (sel k s lt i).map (frame all))) := own_below HVr.out HB4.out
          have f4 := blk_cell HM4.out.blk (i := 4) (u := .int .i64 sd) rfl
          have f2 := blk_cell HM4.out.blk (i := 2) (u := .slice pu n cu) rfl
          clear hw4 d0 d2 d3 hwk hb1 hb2 HB4
          by_cases hsel : (decide (s < k + i + 1) || lt) = true
          · have HSEL := Hid.mk' hsel
            obtain ⟨bu, ou, rfl, cc⟩ := row_some HM4.out.ru (by intro e; have h1 := HN.out; rw [e] at h1; simp at h1; omega)
            obtain ⟨dx, hdx⟩ : ∃ dx, dx = all.getD (k + i) e0 := ⟨_, rfl⟩
            have cj := cc (k + i) (by have h1 := HN.out; have h2 := HZ.out; omega)
            rw [← hdx] at cj
            obtain ⟨j, hj⟩ : ∃ j : Nat, j = k + i := ⟨_, rfl⟩
            rw [← hj] at cj
            have hzj : z - 1 = (j : Int) := by have h1 := HZ.out; omega
            have hjn : (j : Int) < n := by omega
            have HDX : Hid ((false, z, dx) = frame all (k + i + 1)) := by
              rw [Hid]
              unfold frame
              rw [hdx, show k + i + 1 - 1 = k + i by omega, show ((k + i + 1 : Nat) : Int) = z by have h1 := HZ.out; omega]
            have HBA : Hid (Below w4.heap.size w4 (w4.alloc (.cells #[.bool false, .int .i64 z, .string dx] 38))) := below_al _ _
            have HLN : Hid ((PRE ++ (sel k s lt i).map (frame all)).length = n9) := by
              obtain ⟨_, n8, _, e8, h8⟩ := own_shape HV4.out
              injection e8 with _ e8 _
              rw [Hid, e8]; exact h8.out.symm
            have HLB : Hid (n9 ≤ 1048000) := by
              have h1 := HLN.out
              rw [List.length_append, List.length_map] at h1
              have h2 := HPL.out
              have h3 := sel_len k s lt i
              have h4 := HCN.out
              have h5 := HKA.out
              rw [Hid]; omega
            have hlb := HLB.out
            have HVA : Hid ((w4.alloc (.cells #[.bool false, .int .i64 z, .string dx] 38)).ownsRow w.heap.size 38 3 (.slice p n9 c9) n9 (flatF (PRE ++ (sel k s lt i).map (frame all)))) := by
              have h9 := own_below HV4.out HBA.out
              rw [HLN.out] at h9
              exact h9
            have HFN := Hid.mk' (frame_new w4 (false, z, dx) 38)
            have HWB : Hid (w.heap.size ≤ (w4.alloc (.cells #[.bool false, .int .i64 z, .string dx] 38)).heap.size) := Nat.le_trans HC4.out.size HBA.out.size
            by_cases hgt : (sd : Int) < z
            case' pos =>
              have HGT : Hid (max s (k + (i + 1)) = k + i + 1) := by have h1 := HSD.out; have h2 := HZ.out; rw [Hid]; omega
              clear hsel hdx cc hj
            case' neg =>
              have HGT : Hid (max s (k + (i + 1)) = sd) := by have h1 := HSD.out; have h2 := HZ.out; rw [Hid]; omega
              obtain rfl : lt = true := by
                rcases Bool.or_eq_true_iff.1 hsel with e | e
                · have e2 := of_decide_eq_true e
                  have h1 := HSD.out
                  have h2 := HZ.out
                  omega
                · exact e
              clear hsel hdx cc hj
            all_goals
              go_wp2_with (at_builtin; refine wpList_append_own_at _ rfl (.tmp 67) (.tmp 78) 24 rfl w.heap.size 38 i0 (.agg #[.bool false, .int .i64 0, .string ⟨#[]⟩]) 3 32 Tryd.underlying24 hi0 hz0 hz1 hz2 rfl (by decide) (.slice p n9 c9) n9 (flatF (PRE ++ (sel k s _ i).map (frame all))) rfl HVA.out ⟨w4.heap.size, 0, none⟩ 1 1 (flatF [(false, z, dx)]) rfl rfl HFN.out (frames_one _) (by unfold maxLen; omega) (by omega) HWB.out ?_; intro v' w9 hown' hgrow _ hat; obtain ⟨p9, n8, c8, rfl, _⟩ := own_shape hown'; have HR9 : Hid (RowF w.heap.size w9 (.slice p9 n8 c8) ((PRE ++ (sel k s _ i).map (frame all)) ++ [(false, z, dx)])) := own_appF (b := [(false, z, dx)]) HLN.out rfl hown'; have HC9 : Hid (Chg (fun k => (Value.slice p n9 c9).ownBlock = some k) w4 w9) := (Chg.ofBelow HBA.out _).trans (Chg.grown hgrow (fun g e => e)); have hM9 := HM4.out.stay (HC9.out.stay (fun k hk => ⟨HM4.out.lt k hk, fun e => HAP.out k hk (own_ge HV4.out k e)⟩)); have q4 := blk_cell hM9.blk (i := 4) (u := .int .i64 sd) rfl; have q5 := blk_cell hM9.blk (i := 5) (u := .int .i64 ti) rfl; have fq4 := blk_free hM9.blk (i := 4); have fq5 := blk_free hM9.blk (i := 5); have HM9 := Hid.mk' hM9; clear hown' hgrow hat hM9)
              go_roundw
              case rel =>
                have e2 := tk_yes (t := t) HSEL.out
                refine ⟨i + 1, p9, n8, c8, z + 1, HI.out, rfl, rfl, by omega, by have h2 := HKA.out; omega, by rw [Hid]; have h1 := HZ.out; omega, ?_, ?_, ?_⟩
                · rw [Hid, sel_put, if_pos HSEL.out, List.map_append, ← List.append_assoc, show [k + i + 1].map (frame all) = [(false, z, dx)] by rw [HDX.out]; rfl]
                  exact own_stay HR9.out fun g hg => by
                    have h1 := own_ge HR9.out g hg
                    have h2 : g ≠ M := by have := HXW.out; omega
                    first | rw [set_block _ _ _ _ h2, set_block _ _ _ _ h2] | rw [set_block _ _ _ _ h2]
                · rw [Hid, e2, HGT.out]
                  first | exact HM9.out.num rfl | (rw [show ((k + i + 1 : Nat) : Int) = z by have h1 := HZ.out; omega]; exact (HM9.out.num rfl).num rfl)
                · have h9 := HC4.out.next HC9.out (fun g e => Or.inr (own_ge HV4.out g e))
                  first | exact Chg.setCell (F := Fs M (.slice (some ⟨bu, ou, none⟩) n cu) (.slice pg ng cg)) (Chg.setCell (F := Fs M (.slice (some ⟨bu, ou, none⟩) n cu) (.slice pg ng cg)) h9 (p := ⟨M, 5, none⟩) (Or.inl rfl) _) (p := ⟨M, 4, none⟩) (Or.inl rfl) _ | exact Chg.setCell (F := Fs M (.slice (some ⟨bu, ou, none⟩) n cu) (.slice pg ng cg)) h9 (p := ⟨M, 5, none⟩) (Or.inl rfl) _
              case measure => simp [intOf]; omega
          · have hsf : (decide (s < k + i + 1) || lt) = false := by simpa using hsel
            obtain ⟨h1, h2⟩ := Bool.or_eq_false_iff.1 hsf
            subst h2
            have HSF := Hid.mk' hsf
            have h3 := of_decide_eq_false h1
            have hng' : ¬ (sd : Int) < z := by have h4 := HSD.out; have h5 := HZ.out; omega
            have HGT : Hid (max s (k + (i + 1)) = sd) := by have h4 := HSD.out; rw [Hid]; omega
            clear hsel hsf h1 h3
            go_wp2_with fail
            go_roundw
            case rel =>
              obtain ⟨g1, g2⟩ := tk_no (t := t) HSF.out
              refine ⟨i + 1, p, n9, c9, z + 1, HI.out, rfl, rfl, by omega, by have h2 := HKA.out; omega, by rw [Hid]; have h1 := HZ.out; omega, by rw [Hid, g2]; exact HV4.out, by rw [Hid, g1, HGT.out, ← HTI.out]; exact HM4.out, HC4.out⟩
            case measure => simp [intOf]; omega
        · have hb1 : decide (z ≤ (k : Int) + wi) = true := decide_eq_true hz1'
          have hb2 : decide (z ≤ (n : Int)) = false := decide_eq_false hz2'
          have HIC : Hid (i = cnt) := by have h1 := HZ.out; have h2 := HCN.out; have h3 := HN.out; rw [Hid]; omega
          clear hz1' hz2'
          go_wp2_with fail
          go_quiet (fail)
          go_wp2_with fail
          go_ret
          rw [← HIC.out, ← HTI.out, ← HSD.out]
          exact ⟨_, rfl, own_below HVr.out (bel_dn _ _), HMr.out.below (bel_dn _ _), HCr.out.trans (Chg.ofBelow (bel_dn _ _) _)⟩
      · have hb1 : decide (z ≤ (k : Int) + wi) = false := decide_eq_false hz1'
        have HIC : Hid (i = cnt) := by have h1 := HZ.out; have h2 := HCN.out; have h3 := HN.out; rw [Hid]; omega
        clear hz1'
        go_wp2_with fail
        go_quiet (fail)
        go_wp2_with fail
        go_ret
        rw [← HIC.out, ← HTI.out, ← HSD.out]
        exact ⟨_, rfl, own_below HVr.out (bel_dn _ _), HMr.out.below (bel_dn _ _), HCr.out.trans (Chg.ofBelow (bel_dn _ _) _)⟩

end Eu
end Go.Proofs.YtaicacnijlneaaaDoor
