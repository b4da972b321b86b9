/- Package link: Out; all that is asked of package link. -/
import Derived.Test.YtaicacnijlneaaaDoorEp
namespace Go.Proofs.YtaicacnijlneaaaDoor
namespace Er
set_option linter.unusedVariables false
set_option linter.unusedSimpArgs false
open Go.ChangeShapes Go.WideShapes Go.ChangeAt Go.RowKit Ka Kb Ec Ef Eg Em En Eo Ep

theorem bel_dn (w : World) (q : Nat) : Below w.heap.size w (w.drewN q) := bel_drew (Below.refl _ w) q
set_option maxHeartbeats 2000000 in
theorem first_any (X : Nat) (w : World) (a k s : Int) (b t : Nat) (u g : Value) (o : Bool) (lu lg : List ByteArray) (m : Raw w X a b u k s t g o lu lg) (hk : 0 ≤ k ∧ k ≤ 1000) (hs : 0 ≤ s ∧ s ≤ 1000) :
    Calls Tryd.prog 17 #[ptr X] w fun e w' => e = .returned (.int .i64 ((if b ≤ t then k else s) + 1)) ∧ Below w.heap.size w w' := by
  have c5 := blk_cell m.blk (i := 5) (u := .int .i64 t) rfl
  have c1 := blk_cell m.blk (i := 1) (u := .int .i64 b) rfl
  have c3 := blk_cell m.blk (i := 3) (u := .int .i64 k) rfl
  have c4 := blk_cell m.blk (i := 4) (u := .int .i64 s) rfl
  clear m
  obtain ⟨hk1, hk2⟩ := hk
  obtain ⟨hs1, hs2⟩ := hs
  have HB := Hid.mk' (bel_dn w)
  by_cases h : b ≤ t
  · rw [if_pos h]
    have hd : decide (b ≤ t) = true := decide_eq_true h
    clear h
    go_enter Tryd.func17, Tryd.ntmps17
    go_wp2_with fail
    go_quiet (fail)
    go_wp2_with fail
    go_ret
    exact ⟨rfl, HB.out _⟩
  · rw [if_neg h]
    have hd : decide (b ≤ t) = false := decide_eq_false h
    clear h
    go_enter Tryd.func17, Tryd.ntmps17
    go_wp2_with fail
    go_quiet (fail)
    go_wp2_with fail
    go_ret
    exact ⟨rfl, HB.out _⟩

/- append of one frame to a row of the call's own, at a step of a region that draws -/
theorem step_putF {ops : Array Oper} {o : Oper} {a : Act} {W : World} {K : Act → World → Prop} {Q : Exit → Act → World → Prop} {E : Prop} (hgd : o.guard = none) (sO xO : Operand)
    (ho : o.op = .call { callee := .builtin .append, args := #[sO, xO], argTypes := #[24, 24] }) (B : Nat)
    (v : Value) (n : Nat) (l : List Fr) (x : Fr) (hs : a.eval sO = v) (h0 : Nat) (hx : a.eval xO = .slice (some ⟨h0, 0, none⟩) 1 1) (hn : l.length = n)
    (hlen : n + 1 ≤ 1048576) (hown : RowF B W v l) (hB : B ≤ W.heap.size) (hc0 : W.heap[h0]? = some (.cells #[.bool x.1, .int .i64 x.2.1, .string x.2.2] 38))
    (h : ∀ v' w', RowF B w' v' (l ++ [x]) → W.grownBy w' v.ownBlock → (v'.ownBlock = v.ownBlock ∨ v'.ownBlock = some W.heap.size) → K (a.put o.dst v') w') :
    if Region.wanted o (yielded ops a.tmps) = true then Oper.wp Tryd.prog o a W K Q else E := by
  have hw : Region.wanted o (yielded ops a.tmps) = true := by simp [Region.wanted, hgd]
  rw [if_pos hw]
  obtain ⟨i0, hi, hz0, hz1, hz2⟩ := info_parts infoF
  have e6 : flatF [x] = [.bool x.1, .int .i64 x.2.1, .string x.2.2] := rfl
  obtain ⟨v', w', hr, h2, h3, _, h5⟩ := run_append_own_at (P := Tryd.prog) W B 24 o.type 38 i0 (.agg #[.bool false, .int .i64 0, .string ⟨#[]⟩]) 3 32 Tryd.underlying24 hi hz0 hz1 hz2 rfl (by decide) v l.length (flatF l) hown ⟨h0, 0, none⟩ 1 1 (flatF [x]) rfl (by
    intro j u hu
    rw [Addr.add_lit, Nat.zero_add]
    rw [e6] at hu
    exact blk_cell hc0 (by simpa using hu)) (by
    intro u hu
    rw [e6] at hu
    simp only [List.mem_cons, List.not_mem_nil, or_false] at hu
    rcases hu with rfl | rfl | rfl <;> rfl) (by unfold maxLen; omega) (by omega) hB
  unfold Oper.wp execOp
  simp only [ho, resolve, invoke, builtin, Sem.run_bind, Sem.run_pure, Result.andThen_ok, List.map_toArray, List.map_cons, List.map_nil, hs, hx, hr]
  exact h v' w' (own_appF (b := [x]) rfl rfl h2) h3 h5

theorem row_some {B : Nat} {w : World} {p : Option Addr} {n c : Nat} {l : List ByteArray} (h : RowT B w (.slice p n c) l) (hne : l ≠ []) : ∃ b o, p = some ⟨b, o, none⟩ ∧ ∀ j, j < l.length → w.cell? ⟨b, o + j, none⟩ = some (.string (l.getD j e0)) := by
  obtain ⟨p8, c8, e8, h8, _⟩ := TxJ.own h
  injection e8 with e8 _ _
  obtain ⟨b, o, hp, _, hc⟩ := h8.some hne
  exact ⟨b, o, by rw [e8]; exact hp, hc⟩
theorem drop_ne {all : List ByteArray} {k : Nat} (h : 0 < all.length - k) : all.drop k ≠ [] := by
  intro e
  have h2 := congrArg List.length e
  rw [List.length_drop] at h2
  simp at h2
  omega
theorem frames_put (all : List ByteArray) (m k : Nat) : frames all m (k + 1) = frames all m k ++ [frame all (m + k + 1)] := by
  unfold frames
  rw [List.range'_concat, List.map_append]
  simp only [List.map_cons, List.map_nil, Nat.one_mul]
  rw [show m + 1 + k = m + k + 1 by omega]
theorem frames_len (all : List ByteArray) (m k : Nat) : (frames all m k).length = k := by unfold frames; simp
/- what the loop says: from Seq st + 1 on, i of them -/
def said' (s st i : Nat) : Nat := if i = 0 then s else st + i
def ticks' (t i : Nat) : Nat := if i = 0 then t else 0
set_option maxHeartbeats 4000000 in
set_option maxRecDepth 100000 in
theorem out_raw (X : Nat) (w : World) (wi wa k s t : Nat) (u g : Value) (o : Bool) (all lg : List ByteArray) (m : Raw w X wi wa u k s t g o (all.drop k) lg) (hk : k ≤ all.length) (ha : all.length ≤ 1000) (hg : lg.length ≤ 1000) (hs : s ≤ 1000) (hw : wi ≤ 16) (st cnt : Nat) (hst : st = if wa ≤ t then k else s) (hks : k ≤ s) (hcnt : cnt = k + min wi (all.length - k) - st) :
    Calls Tryd.prog 8 #[ptr X] w fun e w' => ∃ v, e = .returned v ∧ RowF w.heap.size w' v ((if o = true then [(true, (lg.length : Int), e0)] else []) ++ frames all st cnt) ∧ Raw w' X wi wa u k (said' s st cnt) (ticks' t cnt) g false (all.drop k) lg ∧ Chg (Fs X u g) w w' := by
  obtain ⟨PRE, hPRE⟩ : ∃ PRE : List Fr, PRE = if o = true then [(true, (lg.length : Int), e0)] else [] := ⟨_, rfl⟩
  rw [← hPRE]
  obtain ⟨i0, hi0, hz0, hz1, hz2⟩ := info_parts infoF
  obtain ⟨pu, n, cu, rfl, hn⟩ := own_shape m.ru
  obtain ⟨pg, ng, cg, rfl, hng⟩ := own_shape m.rg
  have HN : Hid (n = all.length - k) := by rw [Hid, hn.out, List.length_drop]
  have hn9 : n ≤ 1000 := by rw [HN.out]; omega
  have HNG : Hid (ng = lg.length) := hng
  have hng9 : ng ≤ 1000 := by rw [HNG.out]; exact hg
  have c7 := blk_cell m.blk (i := 7) (u := .bool o) rfl
  have c6 := blk_cell m.blk (i := 6) (u := .slice pg ng cg) rfl
  have HM := Hid.mk' m
  have HPRE := Hid.mk' hPRE
  have HST := Hid.mk' hst
  have HCN := Hid.mk' hcnt
  have HKA : Hid (k ≤ all.length ∧ all.length ≤ 1000 ∧ k ≤ s ∧ s ≤ 1000 ∧ wi ≤ 16) := ⟨hk, ha, hks, hs, hw⟩
  have HO : Hid (w.ownsRow w.heap.size 38 3 (.slice none 0 0) 0 (flatF [])) := ⟨rfl, Or.inl ⟨rfl, rfl⟩⟩
  have HXW : Hid (X < w.heap.size) := m.lt X (Or.inl rfl)
  have HAP : Hid (∀ k, Fs X (.slice pu n cu) (.slice pg ng cg) k → ¬ w.heap.size ≤ k) := fun k hk => by have := m.lt k hk; omega
  clear m hPRE hst hcnt hk ha hg hks hn hng
  cases o
  case' false =>
    have HP0 : Hid (PRE = []) := by rw [Hid, HPRE.out, if_neg (by decide)]
    clear HPRE
    go_enter Tryd.func8, Tryd.ntmps8
    go_wp2_with fail
    generalize hw2 : w = w2
    obtain ⟨pv, nv, cv, hpv⟩ : ∃ (pv : Option Addr) (nv cv : Nat), Value.slice pv nv cv = Value.slice none 0 0 := ⟨none, 0, 0, rfl⟩
    rw [← hpv]
    have HM2 : Hid (Raw w2 X wi wa (.slice pu n cu) k s t (.slice pg ng cg) false (all.drop k) lg) := by rw [Hid, ← hw2]; exact HM.out
    have HC2 : Hid (Chg (Fs X (.slice pu n cu) (.slice pg ng cg)) w w2) := by rw [Hid, ← hw2]; exact Chg.refl _ _
    have HV2 : Hid (RowF w.heap.size w2 (.slice pv nv cv) PRE) := by rw [Hid, ← hw2, hpv, HP0.out]; exact ⟨rfl, Or.inl ⟨rfl, rfl⟩⟩
    have HPL : Hid (PRE.length ≤ 1) := by rw [Hid, HP0.out]; exact Nat.zero_le _
    clear hw2 hpv HP0 HM c7 c6
  case' true =>
    have HP0 : Hid (PRE = [(true, (ng : Int), e0)]) := by rw [Hid, HPRE.out, if_pos rfl, HNG.out]
    clear HPRE
    have HOA : Hid ((w.alloc (.cells #[.bool true, .int .i64 ng, .string ⟨#[]⟩] 38)).ownsRow w.heap.size 38 3 (.slice none 0 0) 0 (flatF [])) := ⟨rfl, Or.inl ⟨rfl, rfl⟩⟩
    have HFN := Hid.mk' (frame_new w (true, (ng : Int), ⟨#[]⟩) 38)
    have HBA : Hid (Below w.heap.size w (w.alloc (.cells #[.bool true, .int .i64 ng, .string ⟨#[]⟩] 38))) := below_al _ _
    go_enter Tryd.func8, Tryd.ntmps8
    go_wp2_with (at_builtin; refine wpList_append_own_at _ rfl (.tmp 10) (.tmp 17) 24 rfl w.heap.size 38 i0 (.agg #[.bool false, .int .i64 0, .string ⟨#[]⟩]) 3 32 Tryd.underlying24 hi0 hz0 hz1 hz2 rfl (by decide) (.slice none 0 0) 0 (flatF []) rfl HOA.out ⟨w.heap.size, 0, none⟩ 1 1 (flatF [(true, (ng : Int), ⟨#[]⟩)]) rfl rfl HFN.out (frames_one _) (by unfold maxLen; omega) (by omega) HBA.out.size ?_; intro v' w1 hown' hgrow _ hat; obtain ⟨pv, nv, cv, rfl, _⟩ := own_shape hown'; have HR1 : Hid (RowF w.heap.size w1 (.slice pv nv cv) [(true, (ng : Int), e0)]) := own_appF (a := []) (b := [(true, (ng : Int), e0)]) rfl rfl hown'; have HC1 : Hid (Below w.heap.size w w1) := HBA.out.grown hgrow HBA.out.size (by intro j hj; cases hj); have hb1 := (HM.out.below HC1.out).blk; have q1 := blk_cell hb1 (i := 7) (u := .bool true) rfl; have fq1 := blk_free hb1 (i := 7); clear hown' hgrow hat hb1)
    generalize hw2 : World.setCell w1 _ _ = w2
    have HM2 : Hid (Raw w2 X wi wa (.slice pu n cu) k s t (.slice pg ng cg) false (all.drop k) lg) := by rw [Hid, ← hw2]; exact (HM.out.below HC1.out).num rfl
    have HC2 : Hid (Chg (Fs X (.slice pu n cu) (.slice pg ng cg)) w w2) := by rw [Hid, ← hw2]; exact Chg.setCell (F := Fs X (.slice pu n cu) (.slice pg ng cg)) (Chg.ofBelow HC1.out _) (p := ⟨X, 7, none⟩) (Or.inl rfl) _
    have HV2 : Hid (RowF w.heap.size w2 (.slice pv nv cv) PRE) := by
      rw [Hid, ← hw2, HP0.out]
      exact own_stay HR1.out fun g hg => set_block _ _ _ _ (fun e => by
        have h1 := own_ge HR1.out g hg
        have h2 := HM.out.lt X (Or.inl rfl)
        have e2 : g = X := e
        omega)
    have HPL : Hid (PRE.length ≤ 1) := by rw [Hid, HP0.out]; exact Nat.le_refl _
    clear hw2 HP0 HM c7 c6 q1 fq1 HR1 HC1 HOA HFN HBA
  all_goals
    have d3 := blk_cell HM2.out.blk (i := 3) (u := .int .i64 k) rfl
    have d0 := blk_cell HM2.out.blk (i := 0) (u := .int .i64 wi) rfl
    have d2 := blk_cell HM2.out.blk (i := 2) (u := .slice pu n cu) rfl
    have hk9 : k ≤ 1000 := by have := HKA.out; omega
    have hwi9 : wi ≤ 16 := HKA.out.2.2.2.2
    go_quiet (fail)
    go_wp2_with fail
  all_goals
    generalize hw3 : World.drewN w2 _ = w3
    have HB3 : Hid (Below w2.heap.size w2 w3) := by rw [Hid, ← hw3]; exact bel_dn _ _
    have HM3 : Hid (Raw w3 X wi wa (.slice pu n cu) k s t (.slice pg ng cg) false (all.drop k) lg) := HM2.out.below HB3.out
    have HC3 : Hid (Chg (Fs X (.slice pu n cu) (.slice pg ng cg)) w w3) := HC2.out.trans (Chg.ofBelow HB3.out _)
    have HV3 : Hid (RowF w.heap.size w3 (.slice pv nv cv) PRE) := own_below HV2.out HB3.out
    refine (first_any X w3 wi k s wa t (.slice pu n cu) (.slice pg ng cg) false (all.drop k) lg HM3.out ⟨by omega, by omega⟩ ⟨by omega, by have := HKA.out; omega⟩).mono ?_
    rintro e w4 ⟨rfl, hb4⟩
    have HB4 := Hid.mk' hb4
    have HM4 : Hid (Raw w4 X wi wa (.slice pu n cu) k s t (.slice pg ng cg) false (all.drop k) lg) := HM3.out.below HB4.out
    have HC4 : Hid (Chg (Fs X (.slice pu n cu) (.slice pg ng cg)) w w4) := HC3.out.trans (Chg.ofBelow HB4.out _)
    have HV4 : Hid (RowF w.heap.size w4 (.slice pv nv cv) PRE) := own_below HV3.out HB4.out
    obtain ⟨L, hL⟩ : ∃ L : Nat, L = k + min wi n := ⟨_, rfl⟩
    have HL : Hid (L = k + min wi (all.length - k)) := by rw [Hid, hL, HN.out]
    have hL1 : L ≤ 1016 := by omega
    first | rw [show (k : Int) + (n : Int) = (L : Int) by omega] | rw [show (k : Int) + (wi : Int) = (L : Int) by omega]
    obtain ⟨z0, hz00⟩ : ∃ z0 : Int, z0 = (if wa ≤ t then (k : Int) else (s : Int)) + 1 := ⟨_, rfl⟩
    rw [← hz00]
    have HZ0 : Hid (z0 = (st : Int) + 1) := by rw [Hid, hz00, HST.out]; split <;> rfl
    clear hw3 hb4 hL hz00 d3 d0 d2 HB3 HM3 HC3 HV3 HM2 HC2 HV2 HB4
    go_wp2_with fail
    go_loopw [3, 5] (fun vo vs wr => ∃ (i : Nat) (p : Option Addr) (n9 c9 : Nat) (z : Int), i ≤ cnt ∧ vo = .slice p n9 c9 ∧ vs = .int .i64 z ∧ 0 ≤ z ∧ z ≤ 2000 ∧ Hid (z = (st : Int) + 1 + i) ∧ Hid (RowF w.heap.size wr (.slice p n9 c9) (PRE ++ frames all st i)) ∧ Hid (Raw wr X wi wa (.slice pu n cu) k (said' s st i) (ticks' t i) (.slice pg ng cg) false (all.drop k) lg) ∧ Hid (Chg (Fs X (.slice pu n cu) (.slice pg ng cg)) w wr)) (fun _ vs _ => 3000 - (intOf vs).toNat)
    case atStart => exact ⟨0, _, _, _, _, Nat.zero_le _, rfl, rfl, by rw [HZ0.out]; omega, by rw [HZ0.out]; have h1 := HST.out; have h2 := HKA.out; split at h1 <;> omega, by rw [Hid, HZ0.out]; omega, by rw [Hid, show frames all st 0 = [] from rfl, List.append_nil]; exact HV4.out, HM4.out, HC4.out⟩
    case round =>
      obtain ⟨i, p, n9, c9, z, hi9, rfl, rfl, hzlo, hzhi, HZ, HVr, HMr, HCr⟩ := hrel
      by_cases hzl : z ≤ L
      · have HI : Hid (i < cnt) := by have h1 := HZ.out; have h2 := HCN.out; have h3 := HL.out; rw [Hid]; omega
        obtain ⟨j, hj⟩ : ∃ j : Nat, j = st + i - k := ⟨_, rfl⟩
        have hkst : k ≤ st := by have h1 := HST.out; have h2 := HKA.out; split at h1 <;> omega
        have hjn : j < n := by have h1 := HZ.out; have h2 := HL.out; have h3 := HN.out; omega
        have hjz : (j : Int) < n := by omega
        have hw1 : IntKind.i64.wrap (z - k) = z - k := wrap_in (by omega) (by omega)
        have hw2 : IntKind.i64.wrap (z - k - 1) = (j : Int) := by rw [wrap_in (by omega) (by omega)]; have h1 := HZ.out; omega
        obtain ⟨bu, ou, rfl, cc⟩ := row_some HMr.out.ru (drop_ne (by have h1 := HN.out; omega))
        obtain ⟨dx, hdx⟩ : ∃ dx, dx = (all.drop k).getD j e0 := ⟨_, rfl⟩
        have cj := cc j (by rw [List.length_drop, ← HN.out]; exact hjn)
        rw [← hdx] at cj
        have HDX : Hid ((false, z, dx) = frame all (st + i + 1)) := by
          rw [Hid]
          unfold frame
          rw [hdx, List.getD_eq_getElem?_getD, List.getElem?_drop, List.getD_eq_getElem?_getD, show st + i + 1 - 1 = k + j by omega, show ((st + i + 1 : Nat) : Int) = z by have h1 := HZ.out; omega]
        have d2 := blk_cell HMr.out.blk (i := 2) (u := .slice (some ⟨bu, ou, none⟩) n cu) rfl
        have d3 := blk_cell HMr.out.blk (i := 3) (u := .int .i64 k) rfl
        have HBB : Hid (∀ O, Below wr.heap.size wr (wr.alloc O).drew) := fun O => ((Below.refl _ wr).alloc (Nat.le_refl _) O).drew
        have HVA : Hid (∀ O, RowF w.heap.size (wr.alloc O).drew (.slice p n9 c9) (PRE ++ frames all st i)) := fun O => own_below HVr.out (HBB.out O)
        have HLN : Hid ((PRE ++ frames all st i).length = n9) := by
          obtain ⟨_, n8, _, e8, h8⟩ := own_shape HVr.out
          injection e8 with _ e8 _
          rw [Hid, e8]; exact h8.out.symm
        have HLB : Hid (n9 + 1 ≤ 1048576) := by
          have h1 := HLN.out
          rw [List.length_append, frames_len] at h1
          have h2 := HPL.out
          have h3 := HI.out
          have h4 := HCN.out
          have h5 := HKA.out
          rw [Hid]; omega
        have HWB : Hid (w.heap.size ≤ wr.heap.size) := HCr.out.size
        have HXL : Hid (X < w.heap.size) := HXW.out
        clear hj hdx cc hkst
        go_wp2_with fail
        go_region_law (
          (refine step_putF (by rfl) (.tmp 44) (.tmp 60) (by rfl) w.heap.size (.slice p n9 c9) n9 (PRE ++ frames all st i) (false, z, dx) (by rfl) wr.heap.size (by rfl) HLN.out HLB.out (HVA.out _) (Nat.le_trans HWB.out (HBB.out _).size) (heap_alloc_new wr _) ?_; intro v9 w9 hr9 hg9 hl9; obtain ⟨p9, n8, c8, rfl, _⟩ := own_shape hr9; have HC9 : Hid (Chg (fun k => (Value.slice p n9 c9).ownBlock = some k) wr w9) := (Chg.ofBelow (HBB.out _) _).trans (Chg.grown hg9 (fun g e => e)); have hM9 := HMr.out.stay (HC9.out.stay (fun k hk => ⟨HMr.out.lt k hk, fun e => HAP.out k hk (own_ge HVr.out k e)⟩)); have q4 := blk_cell hM9.blk (i := 4) (u := .int .i64 (said' s st i)) rfl; have q5 := blk_cell hM9.blk (i := 5) (u := .int .i64 (ticks' t i)) rfl; have f4 := blk_free hM9.blk (i := 4); have f5 := blk_free hM9.blk (i := 5); have HR9 := Hid.mk' hr9; have HM9 := Hid.mk' hM9; clear hr9 hg9 hl9 hM9))
        all_goals
          go_wp2_with fail
          go_roundw
          case rel =>
            have e1 : ((said' s st (i + 1) : Nat) : Int) = z := by unfold said'; rw [if_neg (by omega)]; have h1 := HZ.out; omega
            have e2 : ((ticks' t (i + 1) : Nat) : Int) = 0 := by unfold ticks'; rw [if_neg (by omega)]; rfl
            refine ⟨i + 1, p9, n8, c8, z + 1, HI.out, rfl, rfl, by omega, by have h1 := HL.out; have h2 := HKA.out; omega, by rw [Hid]; have h1 := HZ.out; omega, ?_, ?_, ?_⟩
            · rw [Hid, frames_put, ← List.append_assoc, ← HDX.out]
              exact own_stay HR9.out fun g hg => by
                have h1 := own_ge HR9.out g hg
                have h2 : g ≠ X := by have := HXL.out; omega
                rw [set_block _ _ _ _ h2, set_block _ _ _ _ h2]
            · rw [Hid, e1, e2]
              exact (HM9.out.num rfl).num rfl
            · have h9 := HCr.out.next HC9.out (fun g e => Or.inr (own_ge HVr.out g e))
              exact Chg.setCell (F := Fs X (.slice (some ⟨bu, ou, none⟩) n cu) (.slice pg ng cg)) (Chg.setCell (F := Fs X (.slice (some ⟨bu, ou, none⟩) n cu) (.slice pg ng cg)) h9 (p := ⟨X, 4, none⟩) (Or.inl rfl) _) (p := ⟨X, 5, none⟩) (Or.inl rfl) _
          case measure => simp [intOf]; omega
      · go_wp2_with fail
        go_ret
        have hic : i = cnt := by have h1 := HZ.out; have h2 := HCN.out; have h3 := HL.out; omega
        rw [hic] at HVr HMr
        exact ⟨_, rfl, HVr.out, HMr.out, HCr.out⟩

end Er
end Go.Proofs.YtaicacnijlneaaaDoor
