/- What the reference says of a text cut at its dots, and of a vector that is read. -/
import Derived.Test.YtllcmfbkingfdaaGreatDoorRb
namespace Go.Proofs.YtllcmfbkingfdaaGreatDoor
namespace Rc
set_option linter.unusedVariables false
open Go.ChangeShapes Go.WideShapes Go.ChangeAt Go.RowKit Za Ra Rb

theorem own_ge {w : World} {base : Nat} {t : TypeId} {v : Value} {n : Nat} {xs : List Value} (h : w.ownsRow base t 1 v n xs) : ∀ k, v.ownBlock = some k → base ≤ k := by
  intro k hk
  rcases h.2 with ⟨rfl, _⟩ | ⟨g, cap, cur, rfl, hg, _⟩
  · cases hk
  · simp [Value.ownBlock] at hk; omega
theorem own_cells {w : World} {base : Nat} {t : TypeId} {v : Value} {n : Nat} {xs : List Value} (h : w.ownsRow base t 1 v n xs) (hn : 0 < n) :
    ∃ g cap, v = .slice (some ⟨g, 0, none⟩) n cap ∧ ∀ j u, xs[j]? = some u → w.cell? ⟨g, 0 + j, none⟩ = some u := by
  rcases h.2 with ⟨_, h0⟩ | ⟨g, cap, cur, rfl, hg, hh, h3, h4, h5, h6⟩
  · omega
  · refine ⟨g, cap, rfl, fun j u hu => ?_⟩
    have hj : j < n := by
      have := (List.getElem?_eq_some_iff.1 hu).1
      have h1 := h.1
      omega
    rw [← h6, Nat.mul_one, List.getElem?_take_of_lt hj] at hu
    rw [Nat.zero_add]
    simp only [World.cell?, hh]
    simpa using hu
/- one more behind -/
theorem own_grow {w wr w1 : World} {t : TypeId} {v x : Value} {n : Nat} {xs : List Value} (h : wr.ownsRow w.heap.size t 1 v n xs) (hb : Below w.heap.size w wr) (hg : (wr.alloc (.cells #[x] t)).grownBy w1 v.ownBlock) : Below w.heap.size w w1 :=
  (hb.alloc hb.size (.cells #[x] t)).grown hg (by have := hb.size; simp; omega) (own_ge h)

theorem own_more {w1 : World} {B : Nat} {t : TypeId} {v' : Value} {ps : List ByteArray} {x : ByteArray} (h : w1.ownsRow B t 1 v' (ps.length + 1) (ps.map Value.string ++ [.string x])) : w1.ownsRow B t 1 v' (ps ++ [x]).length ((ps ++ [x]).map Value.string) := by
  rw [List.length_append, List.map_append]; exact h

theorem drop_piece {l : List UInt8} {q k : Nat} (hq : q ≤ k) (hk : k < l.length) : l.drop q = (l.drop q).take (k - q) ++ l[k] :: l.drop (k + 1) := by
  conv => lhs; rw [← List.take_append_drop (k - q) (l.drop q)]
  congr 1
  rw [List.drop_drop, show q + (k - q) = k by omega, List.drop_eq_getElem_cons hk]
theorem take_more {l : List UInt8} {q k : Nat} (hq : q ≤ k) (hk : k < l.length) : (l.drop q).take (k + 1 - q) = (l.drop q).take (k - q) ++ [l[k]] := by
  rw [show k + 1 - q = (k - q) + 1 by omega, List.take_succ_eq_append_getElem (by simp; omega)]
  congr 2
  rw [List.getElem_drop]
  congr 1; omega

theorem cut_step {s : ByteArray} {ps : List ByteArray} {q k : Nat} (hq : q ≤ k) (hk : k < s.size) (hc : s[k] = 46) (hcut : ps.map (fun b => b.data.toList) ++ Dm.cut (s.data.toList.drop q) = Dm.cut s.data.toList) (hno : (46 : UInt8) ∉ (s.data.toList.drop q).take (k - q)) :
    (ps ++ [s.extract q k]).map (fun b => b.data.toList) ++ Dm.cut (s.data.toList.drop (k + 1)) = Dm.cut s.data.toList := by
  have h1 : k < s.data.toList.length := hk
  have h2 : s.data.toList[k]'h1 = s[k] := rfl
  have e := drop_piece hq h1
  rw [h2, hc] at e
  have e2 : Dm.cut (s.data.toList.drop q) = (s.data.toList.drop q).take (k - q) :: Dm.cut (s.data.toList.drop (k + 1)) := by
    conv => lhs; rw [e]
    exact Dm.cut_app _ _ hno
  rw [← hcut, e2, List.map_append, List.append_assoc]
  simp only [List.map_cons, List.map_nil, Lib.extract_data, List.cons_append, List.nil_append]
theorem cut_end {s : ByteArray} {ps : List ByteArray} {q k : Nat} (hk : s.size ≤ k) (hcut : ps.map (fun b => b.data.toList) ++ Dm.cut (s.data.toList.drop q) = Dm.cut s.data.toList) (hno : (46 : UInt8) ∉ (s.data.toList.drop q).take (k - q)) :
    (ps ++ [s.extract q s.size]).map (fun b => b.data.toList) = Dm.cut s.data.toList := by
  have h1 : s.data.toList.length = s.size := rfl
  have h2 : (46 : UInt8) ∉ s.data.toList.drop q := by
    rwa [List.take_of_length_le (by rw [List.length_drop, h1]; omega)] at hno
  rw [← hcut, Dm.cut_none _ h2, List.map_append]
  simp only [List.map_cons, List.map_nil, Lib.extract_to_end]

set_option maxRecDepth 100000 in
set_option maxHeartbeats 1000000 in
theorem cut_any (s : ByteArray) (w : World) (hs : s.size ≤ 1048576) :
    Calls Tryz.prog 29 #[.string s, .int .u8 46] w fun e w' => ∃ g cap, ∃ ws : List ByteArray, e = .returned (.slice (some ⟨g, 0, none⟩) ws.length cap) ∧ ws.map (fun b => b.data.toList) = Dm.cut s.data.toList ∧ (∀ j, j < ws.length → w'.cell? ⟨g, 0 + j, none⟩ = some (.string (ws.getD j ByteArray.empty))) ∧ Below w.heap.size w w' := by
  obtain ⟨i0, hi, hz0, hz1, hz2⟩ := info_parts infoString
  go_enter Tryz.func29, Tryz.ntmps29
  go_wp2
  go_loopw [5, 6, 7] (fun v f i wr => ∃ (k q : Nat) (ps : List ByteArray), q ≤ k ∧ k ≤ s.size ∧ i = .int .i64 k ∧ f = .int .i64 q ∧ ps.length ≤ k ∧ Hid (ps.map (fun b => b.data.toList) ++ Dm.cut (s.data.toList.drop q) = Dm.cut s.data.toList) ∧ Hid ((46 : UInt8) ∉ (s.data.toList.drop q).take (k - q)) ∧ Hid (wr.ownsRow w.heap.size 9 1 v ps.length (ps.map Value.string)) ∧ Hid (Below w.heap.size w wr)) (fun _ _ i _ => s.size - (intOf i).toNat)
  case atStart => exact ⟨0, 0, [], by omega, by omega, rfl, rfl, by simp, rfl, by unfold Hid; simp, World.ownsRow_nil _ _ _ _, Below.refl _ _⟩
  case round =>
    obtain ⟨k, q, ps, hqk, hk, rfl, rfl, hps, HCUT, HNO, HOWN, HBE⟩ := hrel
    by_cases hlt : k < s.size
    · have hb : s[k].toNat < 256 := UInt8.toNat_lt _
      have HLK : Hid (∃ h : k < s.data.toList.length, s.data.toList[k]'h = s[k]) := ⟨hlt, rfl⟩
      have HEX : Hid ((s.extract q k).data.toList = (s.data.toList.drop q).take (k - q)) := Lib.extract_data s q k
      cases h46 : ((s[k].toNat : Int) == 46)
      case false =>
        have HNO2 : Hid ((46 : UInt8) ∉ (s.data.toList.drop q).take (k + 1 - q)) := by
          obtain ⟨h1, h2⟩ := HLK.out
          unfold Hid
          rw [take_more hqk h1, h2]
          intro hm
          rcases List.mem_append.1 hm with hm | hm
          · exact HNO.out hm
          · have : (46 : UInt8) = s[k] := by simpa using hm
            rw [← this] at h46
            exact absurd h46 (by decide)
        go_wp2
        go_roundw
        case rel => exact ⟨k + 1, q, ps, by omega, by omega, by go_num, rfl, by omega, HCUT, HNO2, HOWN, HBE⟩
        case measure => simp [intOf]; omega
      case true =>
        have HCUT2 : Hid ((ps ++ [s.extract q k]).map (fun b => b.data.toList) ++ Dm.cut (s.data.toList.drop (k + 1)) = Dm.cut s.data.toList) := by
          have hc : s[k] = 46 := by
            apply UInt8.toNat_inj.1
            have : (s[k].toNat : Int) = 46 := by simpa using h46
            have h2 : (46 : UInt8).toNat = 46 := rfl
            omega
          exact cut_step hqk hlt hc HCUT.out HNO.out
        go_wp2_with (at_builtin; refine wpList_append_own_at _ rfl (.tmp 19) (.tmp 24) 53 rfl w.heap.size 9 i0 (.string ByteArray.empty) 1 16 Tryz.underlying53 hi hz0 hz1 hz2 rfl (by decide) u5 _ _ rfl (HOWN.out.alloc _) ⟨wr.heap.size, 0, none⟩ 1 1 [.string (s.extract q k)] rfl rfl (cell_one_new _ _ _) (by intro u hu; simp at hu; subst hu; rfl) (by unfold maxLen; omega) (by omega) (by have := HBE.out.size; simp; omega) ?_; intro v' w1 hown' hgrow _ hat; have HB1 : Hid (Below w.heap.size w w1) := own_grow HOWN.out HBE.out hgrow; have HO1 : Hid (w1.ownsRow w.heap.size 9 1 v' (ps ++ [s.extract q k]).length ((ps ++ [s.extract q k]).map Value.string)) := own_more hown'; clear hown' hgrow hat)
        go_roundw
        case rel => exact ⟨k + 1, k + 1, ps ++ [s.extract q k], by omega, by omega, by go_num, by go_num, by simp; omega, HCUT2, by unfold Hid; simp, HO1, HB1⟩
        case measure => simp [intOf]; omega
    · have HCUT2 : Hid ((ps ++ [s.extract q s.size]).map (fun b => b.data.toList) = Dm.cut s.data.toList) := cut_end (by omega) HCUT.out HNO.out
      go_wp2_with (at_builtin; refine wpList_append_own_at _ rfl (.tmp 28) (.tmp 32) 53 rfl w.heap.size 9 i0 (.string ByteArray.empty) 1 16 Tryz.underlying53 hi hz0 hz1 hz2 rfl (by decide) u5 _ _ rfl (HOWN.out.alloc _) ⟨wr.heap.size, 0, none⟩ 1 1 [.string (s.extract q s.size)] rfl rfl (cell_one_new _ _ _) (by intro u hu; simp at hu; subst hu; rfl) (by unfold maxLen; omega) (by omega) (by have := HBE.out.size; simp; omega) ?_; intro v' w1 hown' hgrow _ hat; have HB1 : Hid (Below w.heap.size w w1) := own_grow HOWN.out HBE.out hgrow; have HO1 : Hid (w1.ownsRow w.heap.size 9 1 v' (ps ++ [s.extract q s.size]).length ((ps ++ [s.extract q s.size]).map Value.string)) := own_more hown'; clear hown' hgrow hat)
      go_ret
      obtain ⟨g, cap, e, hc⟩ := own_cells HO1.out (by simp)
      refine ⟨g, cap, ps ++ [s.extract q s.size], ?_, HCUT2.out, ?_, HB1.out⟩
      · rw [← e]; rfl
      · intro j hj
        refine hc j _ ?_
        rw [List.getElem?_map, List.getElem?_eq_getElem hj, List.getD_eq_getElem?_getD, List.getElem?_eq_getElem hj]; rfl

theorem ref_num (l : List UInt8) : (Dm.refO l).isSome = (Dm.numO l).isSome ∧ numV l = (Dm.numO l).getD 0 := by
  rw [Dm.numO_ref]
  unfold numV
  cases Dm.refO l <;> exact ⟨rfl, rfl⟩

set_option maxRecDepth 100000 in
set_option maxHeartbeats 1000000 in
theorem read_any (s : ByteArray) (w : World) (hs : s.size ≤ 1048576) :
    Calls Tryz.prog 16 #[.string s] w fun e w' => ∃ p c, e = .returned (.tuple #[.slice p (Dm.parseV s.data.toList).length c, .int .i64 (Dm.parseE s.data.toList)]) ∧ IntsIn w' p (Dm.parseV s.data.toList) ∧ Below w.heap.size w w' := by
  obtain ⟨i0, hi, hz0, hz1, hz2⟩ := info_parts infoInt
  go_enter Tryz.func16, Tryz.ntmps16
  go_wp2_with fail
  refine (cut_any s w hs).mono ?_
  rintro e w1 ⟨g, cap, ws, rfl, hws, hcw, hb1⟩
  have hn1 : ws.length ≤ 1048577 := by
    have h1 := Dm.cut_len s.data.toList
    rw [← hws, List.length_map] at h1
    have h2 : s.data.toList.length = s.size := rfl
    omega
  have hn0 : 0 < ws.length := by
    have h1 := Dm.cut_ne s.data.toList
    rw [← hws] at h1
    rcases ws with _ | ⟨a, b⟩
    · exact absurd rfl h1
    · simp
  have HWS : Hid (ws.map (fun b => b.data.toList) = Dm.cut s.data.toList) := hws
  have HWB : Hid (∀ j, j < ws.length → (ws.getD j ByteArray.empty).size ≤ 1048576) := by
    intro j hj
    have h1 := Dl.mem_word hj
    rw [hws] at h1
    have h2 := Dm.cut_word s.data.toList _ h1
    have h3 : (ws.getD j ByteArray.empty).data.toList.length = (ws.getD j ByteArray.empty).size := rfl
    have h4 : s.data.toList.length = s.size := rfl
    omega
  have HCW : Hid (∀ j, j < ws.length → w1.cell? ⟨g, 0 + j, none⟩ = some (.string (ws.getD j ByteArray.empty))) := hcw
  have HB1 : Hid (Below w.heap.size w w1) := hb1
  obtain ⟨N, hN⟩ : ∃ N, N = ws.length := ⟨_, rfl⟩
  rw [← hN] at hn1 hn0 HCW HWB ⊢
  have HN : Hid (N = ws.length) := hN
  clear hws hcw hb1 hN hs
  go_wp2_with fail
  go_loopw [4, 6, 7, 8] (fun v i _ _ wr => ∃ k : Nat, k ≤ N ∧ i = .int .i64 k ∧ Hid (∀ j, j < k → Dm.numO (ws.getD j ByteArray.empty).data.toList ≠ none) ∧ Hid (wr.ownsRow w1.heap.size 3 1 v k (((List.range k).map (Dl.numAt ws)).map (fun z => Value.int .i64 z))) ∧ Hid (Below w1.heap.size w1 wr)) (fun _ i _ _ _ => N - (intOf i).toNat)
  case atStart => exact ⟨0, by omega, rfl, fun j hj => absurd hj (by omega), World.ownsRow_nil _ _ _ _, Below.refl _ _⟩
  case round =>
    obtain ⟨k, hk, rfl, HK, HOWN, HBE⟩ := hrel
    by_cases hlt : k < N
    · have hltz : (k : Int) < N := by omega
      have e1 := HCW.out k hlt
      rw [Nat.zero_add] at e1
      have hwb := HWB.out k hlt
      obtain ⟨x, hx⟩ : ∃ x, x = ws.getD k ByteArray.empty := ⟨_, rfl⟩
      rw [← hx] at e1 hwb
      have HX : Hid (x = ws.getD k ByteArray.empty) := hx
      clear hx
      have d1 : wr.cell? ⟨g, k, none⟩ = some (.string x) := (HBE.out.cell (World.block_lt_of_cell? _ _ e1)).trans e1
      clear e1
      have CN := number_any x wr hwb
      rw [(ref_num x.data.toList).1, (ref_num x.data.toList).2] at CN
      cases hno : Dm.numO x.data.toList with
      | none =>
        rw [hno] at CN
        have HP : Hid (Dm.parseE s.data.toList = 2 ∧ Dm.parseV s.data.toList = []) := by
          refine Dm.parse_bad ⟨x.data.toList, ?_, hno⟩
          rw [← HWS.out, HX.out]; exact Dl.mem_word (by rw [← HN.out]; exact hlt)
        clear hno
        go_wp2_with (go_at_call 30; refine CN.mono ?_; rintro e w' ⟨rfl, hw⟩; have hw2 := hw.symm; subst hw2; clear hw CN; simp only [Option.getD_none, Option.isSome_none])
        go_ret2
        refine ⟨none, 0, ?_, ?_, bel HB1.out HBE.out⟩
        · rw [HP.out.1, HP.out.2]; rfl
        · rw [HP.out.2]; exact IntsIn.nil _ _
      | some m =>
        rw [hno] at CN
        have HM : Hid (((List.range k).map (Dl.numAt ws)).map (fun z => Value.int .i64 z) ++ [.int .i64 m] = ((List.range (k + 1)).map (Dl.numAt ws)).map (fun z => Value.int .i64 z)) := by
          have hm : Dl.numAt ws k = m := by unfold Dl.numAt; rw [← HX.out, hno]; rfl
          unfold Hid
          rw [List.range_succ, List.map_append, List.map_append]
          simp [hm]
        have HK2 : Hid (∀ j, j < k + 1 → Dm.numO (ws.getD j ByteArray.empty).data.toList ≠ none) := by
          intro j hj
          rcases Nat.lt_succ_iff_lt_or_eq.1 hj with h | rfl
          · exact HK.out j h
          · rw [← HX.out, hno]; simp
        clear hno
        go_wp2_with (first | (go_at_call 30; refine CN.mono ?_; rintro e w' ⟨rfl, hw⟩; have hw2 := hw.symm; subst hw2; clear hw CN; simp only [Option.getD_some, Option.isSome_some]) | (at_builtin; refine wpList_append_own_at _ rfl (.tmp 28) (.tmp 30) 22 rfl w1.heap.size 3 i0 (.int .i64 0) 1 8 Tryz.underlying22 hi hz0 hz1 hz2 rfl (by decide) u4 _ _ rfl (HOWN.out.alloc _) ⟨wr.heap.size, 0, none⟩ 1 1 [.int .i64 m] rfl rfl (cell_one_new _ _ _) (by intro u hu; simp at hu; subst hu; rfl) (by unfold maxLen; omega) (by omega) (by have := HBE.out.size; simp; omega) ?_; intro v' w2 hown' hgrow _ hat; have HB2 : Hid (Below w1.heap.size w1 w2) := own_grow HOWN.out HBE.out hgrow; have HO2 : Hid (w2.ownsRow w1.heap.size 3 1 v' (k + 1) (((List.range (k + 1)).map (Dl.numAt ws)).map (fun z => Value.int .i64 z))) := (by rw [← HM.out]; exact hown'); clear hown' hgrow hat))
        go_roundw
        case rel => exact ⟨k + 1, by omega, by go_num, HK2, HO2, HB2⟩
        case measure => simp [intOf]; omega
    · obtain rfl : k = N := by omega
      obtain ⟨g2, cap2, rfl, hcc⟩ := own_cells HOWN.out hn0
      obtain ⟨v, hv⟩ : ∃ v, v = (Dm.cut s.data.toList).map fun x => (Dm.numO x).getD 0 := ⟨_, rfl⟩
      have hna := Dl.nums_at HWS.out
      rw [← hv, ← HN.out] at hna
      have hin : IntsIn wr (some ⟨g2, 0, none⟩) v := Or.inr ⟨g2, 0, rfl, fun j hj => by
        rw [hna.1] at hj
        refine hcc j _ ?_
        rw [List.getElem?_map, List.getElem?_map, List.getElem?_range hj, hna.2 j hj]; rfl⟩
      have CV := rvec_any (some ⟨g2, 0, none⟩) k cap2 v wr hna.1 hin
      have hpa := Dm.parse_all (s := s.data.toList) (by
        intro x hx
        rw [← HWS.out] at hx
        obtain ⟨j, hj, e⟩ := Dl.word_mem hx
        rw [← e]; exact HK.out j (by rw [HN.out]; exact hj))
      rw [← hv] at hpa
      have HIN : Hid (IntsIn wr (some ⟨g2, 0, none⟩) v) := hin
      have HVL : Hid (v.length = k) := hna.1
      have HBF : Hid (Below w.heap.size w wr) := bel HB1.out HBE.out
      by_cases h0 : Dm.vecE v = 0
      · have HPE : Hid (Dm.parseE s.data.toList = 0) := by unfold Hid; rw [hpa.1, h0]
        have HPV : Hid (Dm.parseV s.data.toList = v) := by unfold Hid; rw [hpa.2, if_pos h0]
        rw [h0] at CV
        clear hv hna hin hpa h0 hcc HOWN
        go_wp2_with fail
        refine CV.mono ?_
        rintro e w' ⟨rfl, hw⟩
        have hw2 := hw.symm; subst hw2; clear hw CV
        go_wp2_with fail
        go_ret2
        refine ⟨some ⟨g2, 0, none⟩, cap2, ?_, ?_, HBF.out⟩
        · rw [HPE.out, HPV.out, HVL.out]; rfl
        · rw [HPV.out]; exact HIN.out
      · have HPE : Hid (Dm.parseE s.data.toList = Dm.vecE v) := hpa.1
        have HPV : Hid (Dm.parseV s.data.toList = []) := by unfold Hid; rw [hpa.2, if_neg h0]
        obtain ⟨q, hq⟩ : ∃ q, q = Dm.vecE v := ⟨_, rfl⟩
        have hq0 : (q == 0) = false := by rw [hq]; simpa using h0
        rw [← hq] at CV HPE
        clear hv hna hin hpa h0 hq hcc HOWN
        go_wp2_with fail
        refine CV.mono ?_
        rintro e w' ⟨rfl, hw⟩
        have hw2 := hw.symm; subst hw2; clear hw CV
        go_wp2_with fail
        go_ret2
        refine ⟨none, 0, ?_, ?_, HBF.out⟩
        · rw [HPE.out, HPV.out]; rfl
        · rw [HPV.out]; exact IntsIn.nil _ _

end Rc
end Go.Proofs.YtllcmfbkingfdaaGreatDoor
