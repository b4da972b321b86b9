/- What dot.Print and dot.Parse answer. -/
import Derived.Test.YtllcmfbkingfdaaGreatDoorDi
namespace Go.Proofs.YtllcmfbkingfdaaGreatDoor
namespace Dl
set_option linter.unusedVariables false
open Go.ChangeShapes Go.WideShapes Go.ChangeAt Go.RowKit Za Db Dg Di

def num (v : List Int) (j : Nat) : ByteArray := ⟨(Lib.itoa (v.getD j 0)).toArray⟩
/- what is joined -/
theorem joined {v : List Int} {w : World} {g : Nat} (hv : Dm.vecE v = 0) (hc : ∀ j, j < 8 → w.cell? ⟨g, j, none⟩ = some (.string (num v j))) (c : Nat) (hcap : 8 ≤ c) (t : ByteArray) (ht : t = ⟨(Dm.printT v).toArray⟩) :
    Calls Tryz.prog 24 #[.slice (some ⟨g, 0, none⟩) 8 c, .string ⟨#[46]⟩] w fun e w' => e = .returned (.string t) ∧ Below w.heap.size w w' := by
  have hv' := Dm.vecE_zero.1 hv
  have hlen : (v.map fun n => (⟨(Lib.itoa n).toArray⟩ : ByteArray)).length = 8 := by rw [List.length_map]; exact hv'.1
  have hmm : (v.map fun n => (⟨(Lib.itoa n).toArray⟩ : ByteArray)).map (fun x => x.data.toList) = v.map Lib.itoa := by
    rw [List.map_map]; apply List.map_congr_left; intro n _; rfl
  have hb := Dm.join_len (v.map Lib.itoa) (by intro x hx; obtain ⟨n, hn, rfl⟩ := List.mem_map.1 hx; exact Dm.itoa_len (hv'.2 n hn).1 (hv'.2 n hn).2)
  have C := Tryz.strings_Join g 0 c (v.map fun n => (⟨(Lib.itoa n).toArray⟩ : ByteArray)) ⟨#[46]⟩ w (by
      intro j x hx
      rw [List.getElem?_map] at hx
      cases hj : v[j]? with
      | none => rw [hj] at hx; cases hx
      | some n =>
        rw [hj] at hx
        simp only [Option.map_some, Option.some.injEq] at hx
        have hj8 : j < 8 := by have := (List.getElem?_eq_some_iff.1 hj).1; omega
        rw [Nat.zero_add, hc j hj8, num, List.getD_eq_getElem?_getD, hj, ← hx]; rfl) (World.block_lt_of_cell? _ _ (hc 0 (by decide))) (by rw [hlen]; decide) (by rw [hlen]; exact hcap)
    (by rw [hmm]; refine Nat.le_trans hb ?_; rw [List.length_map, hv'.1]; decide)
  rw [hlen, hmm] at C
  refine C.mono ?_
  rintro e w' ⟨rfl, hb2⟩
  refine ⟨?_, hb2⟩
  rw [ht]; unfold Dm.printT Dm.printL; rw [if_pos hv]

theorem print_no (p : Option Addr) (n c : Nat) (l : List Int) (w : World) (hl : l.length = n) (h : IntsIn w p l) (hne : Dm.vecE l ≠ 0) :
    Calls Tryz.prog 13 #[.slice p n c] w fun e w' => e = .returned (.tuple #[.string ⟨#[]⟩, .iface 47 (.int .i64 (Dm.vecE l))]) ∧ w' = w := by
  have C := vector_any p n c l w hl h
  rw [errV_ne hne] at C
  obtain ⟨k, hk⟩ : ∃ k, k = Dm.vecE l := ⟨_, rfl⟩
  rw [← hk] at C ⊢
  clear hl h hne hk
  go_enter Tryz.func13, Tryz.ntmps13
  go_wp2_with fail
  refine C.mono ?_
  rintro e w' ⟨rfl, hw⟩
  have hw2 := hw.symm; subst hw2; clear hw
  go_wp2_with fail
  go_ret2
  exact ⟨rfl, rfl⟩

set_option maxHeartbeats 1000000 in
theorem print_yes (p : Option Addr) (n c : Nat) (l : List Int) (w : World) (hl : l.length = n) (h : IntsIn w p l) (hL : Lib3 w) (h0 : Dm.vecE l = 0) (t : ByteArray) (ht : t = ⟨(Dm.printT l).toArray⟩) :
    Calls Tryz.prog 13 #[.slice p n c] w fun e w' => e = .returned (.tuple #[.string t, .nilIface]) ∧ Below w.heap.size w w' := by
  have C := vector_any p n c l w hl h
  rw [h0, errV_zero] at C
  have hv := Dm.vecE_zero.1 h0
  obtain rfl : n = 8 := by omega
  obtain ⟨b1, o1, rfl, c1⟩ := h.some (by rintro rfl; simp at hv)
  have C1 : Hid (∀ j, j < 8 → w.cell? ⟨b1, o1 + j, none⟩ = some (.int .i64 (l.getD j 0))) := fun j hj => c1 j (by omega)
  have HR : Hid (∀ j, j < 8 → 0 ≤ l.getD j 0 ∧ l.getD j 0 ≤ 9999) := by
    intro j hj
    rw [List.getD_eq_getElem?_getD, List.getElem?_eq_getElem (by omega)]
    exact hv.2 _ (List.getElem_mem _)
  have HV : Hid (Dm.vecE l = 0) := h0
  have HT : Hid (t = ⟨(Dm.printT l).toArray⟩) := ht
  have HL : Hid (Lib3 w) := hL
  obtain ⟨i0, hi, hz0, hz1, hz2⟩ := info_parts infoString
  clear hl h h0 hv c1 ht hL
  go_enter Tryz.func13, Tryz.ntmps13
  go_wp2_with fail
  refine C.mono ?_
  rintro e w' ⟨rfl, hw⟩
  have hw2 := hw.symm; subst hw2; clear hw C
  go_wp2_with (at_make; refine wpList_make_full _ rfl (.tmp 14) (.tmp 14) 53 rfl w.heap.size 9 i0 (.string ByteArray.empty) 1 Tryz.underlying53 hi hz0 hz1 .i64 .i64 8 8 8 rfl rfl rfl rfl (by rw [hz2]; omega) (by unfold maxLen; omega) (Nat.le_refl _) ?_; intro w1 hown hgrow; have HF : Hid (Fill w w.heap.size 8 (fun j => .string (num l j)) 0 w1) := Fill.start (Nat.le_refl _) hown ((Below.refl _ w).grown hgrow (Nat.le_refl _) (fun k hk => by cases hk)); clear hown hgrow)
  go_loopw [6, 7, 18] (fun _ _ v wr => ∃ k : Nat, k ≤ 8 ∧ v = .int .i64 k ∧ Hid (Fill w w.heap.size 8 (fun j => .string (num l j)) k wr)) (fun _ _ v _ => 8 - (intOf v).toNat)
  case atStart => exact ⟨0, by omega, rfl, HF⟩
  case round =>
    clear HF
    obtain ⟨k, hk, rfl, HF⟩ := hrel
    by_cases hlt : k < 8
    · have hltz : (k : Int) < 8 := by omega
      have e1 := C1.out k hlt
      obtain ⟨hr0, hr9⟩ := HR.out k hlt
      obtain ⟨s, hs⟩ : ∃ s, s = num l k := ⟨_, rfl⟩
      have HS : Hid (s = num l k) := hs
      have CI := itoa_any (l.getD k 0) (by omega) (by omega) wr (HL.out.below HF.out.2.2.2.1)
      rw [show (⟨(Lib.itoa (l.getD k 0)).toArray⟩ : ByteArray) = s from hs.symm] at CI
      obtain ⟨x, hx⟩ : ∃ x, x = l.getD k 0 := ⟨_, rfl⟩
      rw [← hx] at e1 CI
      clear hs hx hr0 hr9
      have d1 : wr.cell? ⟨b1, o1 + k, none⟩ = some (.int .i64 x) := (HF.out.2.2.2.1.cell (World.block_lt_of_cell? _ _ e1)).trans e1
      clear e1
      go_wp2_with fail
      refine CI.mono ?_
      rintro e w2 ⟨rfl, hb2⟩
      have HF2 : Hid (Fill w w.heap.size 8 (fun j => .string (num l j)) k w2) := HF.out.below (HF.out.lt (by decide)) hb2
      obtain ⟨old, d3⟩ := HF2.out.2.1 k hlt
      have d4 := HF2.out.2.2.1 k
      have HN : Hid (Fill w w.heap.size 8 (fun j => .string (num l j)) (k + 1) (w2.setCell ⟨w.heap.size, k, none⟩ (.string s))) := HF2.out.step hlt (.string s) (by rw [HS.out])
      clear hb2 CI d1
      go_wp2_with fail
      go_roundw
      case rel => exact ⟨k + 1, by omega, by go_num, HN⟩
      case measure => simp [intOf]; omega
    · obtain rfl : k = 8 := by omega
      have CJ := joined (w := wr) (g := w.heap.size) HV.out HF.out.1 8 (Nat.le_refl _) t HT.out
      go_wp2_with fail
      refine CJ.mono ?_
      rintro e w2 ⟨rfl, hb2⟩
      have HB : Hid (Below w.heap.size w w2) := bel HF.out.2.2.2.1 hb2
      clear CJ hb2
      go_wp2_with fail
      go_ret2
      exact ⟨rfl, HB.out⟩

/- the words of a text, as strings.Split lays them -/
theorem words_any (s : ByteArray) (w : World) (hs : s.size ≤ 1048576) (hL : Lib3 w) :
    Calls Tryz.prog 31 #[.string s, .string ⟨#[46]⟩] w fun e w' => ∃ ws : List ByteArray, e = .returned (.slice (some ⟨w.heap.size, 0, none⟩) ws.length ws.length) ∧ ws.map (fun b => b.data.toList) = Dm.cut s.data.toList ∧ (∀ j, j < ws.length → w'.cell? ⟨w.heap.size, 0 + j, none⟩ = some (.string (ws.getD j ByteArray.empty))) ∧ Below w.heap.size w w' := by
  obtain ⟨m, hm⟩ := hL.2.1
  refine (Tryz.strings_Split s ⟨#[46]⟩ m w (by omega) hm (by decide)).mono ?_
  rintro e w' ⟨rfl, rfl⟩
  have h1 := Dm.split_words s
  have h2 : (Lib.splitB ⟨#[46]⟩ 0 (Lib.countB s ⟨#[46]⟩) s).length = Lib.countB s ⟨#[46]⟩ + 1 := by
    rw [Dm.count_words, ← h1, List.length_map]
  refine ⟨Lib.splitB ⟨#[46]⟩ 0 (Lib.countB s ⟨#[46]⟩) s, by rw [h2], h1, fun j hj => ?_, (Below.refl _ w).alloc (Nat.le_refl _) _⟩
  rw [Nat.zero_add, World.cell?_alloc_new, List.getElem?_toArray, List.getElem?_map, List.getElem?_eq_getElem hj, List.getD_eq_getElem?_getD, List.getElem?_eq_getElem hj]; rfl

def numAt (ws : List ByteArray) (j : Nat) : Int := (Dm.numO (ws.getD j ByteArray.empty).data.toList).getD 0
theorem mem_word {ws : List ByteArray} {j : Nat} (hj : j < ws.length) : (ws.getD j ByteArray.empty).data.toList ∈ ws.map (fun b => b.data.toList) := by
  rw [List.getD_eq_getElem?_getD, List.getElem?_eq_getElem hj]
  exact List.mem_map.2 ⟨_, List.getElem_mem _, rfl⟩
theorem word_mem {ws : List ByteArray} {x : List UInt8} (h : x ∈ ws.map (fun b => b.data.toList)) : ∃ j, j < ws.length ∧ (ws.getD j ByteArray.empty).data.toList = x := by
  obtain ⟨b, hb, rfl⟩ := List.mem_map.1 h
  obtain ⟨j, hj, e⟩ := List.getElem_of_mem hb
  exact ⟨j, hj, by rw [List.getD_eq_getElem?_getD, List.getElem?_eq_getElem hj, ← e]; rfl⟩
theorem nums_at {ws : List ByteArray} {s : List UInt8} (h : ws.map (fun b => b.data.toList) = Dm.cut s) : ((Dm.cut s).map fun x => (Dm.numO x).getD 0).length = ws.length ∧ ∀ j, j < ws.length → ((Dm.cut s).map fun x => (Dm.numO x).getD 0).getD j 0 = numAt ws j := by
  rw [← h]
  refine ⟨by simp, fun j hj => ?_⟩
  rw [List.getD_eq_getElem?_getD, List.getElem?_eq_getElem (by simpa using hj)]
  unfold numAt
  rw [List.getD_eq_getElem?_getD, List.getElem?_eq_getElem hj]
  simp

set_option maxHeartbeats 1000000 in
theorem parse_any (s : ByteArray) (w : World) (hs : s.size ≤ 1048576) (hL : Lib3 w) :
    Calls Tryz.prog 17 #[.string s] w fun e w' => ∃ p c, e = .returned (.tuple #[.slice p (Dm.parseV s.data.toList).length c, errV (Dm.parseE s.data.toList)]) ∧ IntsIn w' p (Dm.parseV s.data.toList) ∧ Below w.heap.size w w' := by
  have C := words_any s w hs hL
  have HL : Hid (Lib3 w) := hL
  obtain ⟨i0, hi, hz0, hz1, hz2⟩ := info_parts infoInt
  clear hL
  go_enter Tryz.func17, Tryz.ntmps17
  go_wp2_with fail
  refine C.mono ?_
  rintro e w1 ⟨ws, rfl, hws, hcw, hb1⟩
  have hn1 : ws.length ≤ 1048577 := by
    have h1 := Dm.cut_len s.data.toList
    rw [← hws, List.length_map] at h1
    have h2 : s.data.toList.length = s.size := rfl
    omega
  have hn0 : 0 < ws.length := by
    have h1 := Dm.cut_ne s.data.toList
    rw [← hws] at h1
    rcases ws with _ | ⟨a, b⟩
    · exact absurd rfl h1
    · simp
  have HWS : Hid (ws.map (fun b => b.data.toList) = Dm.cut s.data.toList) := hws
  have HCW : Hid (∀ j, j < ws.length → w1.cell? ⟨w.heap.size, 0 + j, none⟩ = some (.string (ws.getD j ByteArray.empty))) := hcw
  have HB1 : Hid (Below w.heap.size w w1) := hb1
  obtain ⟨N, hN⟩ : ∃ N, N = ws.length := ⟨_, rfl⟩
  rw [← hN] at hn1 hn0 HCW ⊢
  have HN : Hid (N = ws.length) := hN
  clear C hws hcw hb1 hN hs
  go_wp2_with (at_make; refine wpList_make_full _ rfl (.tmp 14) (.tmp 14) 22 rfl w1.heap.size 3 i0 (.int .i64 0) 1 Tryz.underlying22 hi hz0 hz1 .i64 .i64 N N N rfl rfl rfl rfl (by rw [hz2]; omega) (by unfold maxLen; omega) (Nat.le_refl _) ?_; intro w2 hown hgrow; have HF : Hid (Fill w1 w1.heap.size N (fun j => .int .i64 (numAt ws j)) 0 w2) := Fill.start (Nat.le_refl _) hown ((Below.refl _ w1).grown hgrow (Nat.le_refl _) (fun k hk => by cases hk)); clear hown hgrow)
  go_loopw [6, 7, 8, 9, 18] (fun _ _ _ _ v wr => ∃ k : Nat, k ≤ N ∧ v = .int .i64 k ∧ Hid (∀ j, j < k → Dm.numO (ws.getD j ByteArray.empty).data.toList ≠ none) ∧ Hid (Fill w1 w1.heap.size N (fun j => .int .i64 (numAt ws j)) k wr)) (fun _ _ _ _ v _ => N - (intOf v).toNat)
  case atStart => exact ⟨0, by omega, rfl, fun j hj => absurd hj (by omega), HF⟩
  case round =>
    clear HF
    obtain ⟨k, hk, rfl, HK, HF⟩ := hrel
    by_cases hlt : k < N
    · have hltz : (k : Int) < N := by omega
      have e1 := HCW.out k hlt
      rw [Nat.zero_add] at e1
      obtain ⟨x, hx⟩ : ∃ x, x = ws.getD k ByteArray.empty := ⟨_, rfl⟩
      rw [← hx] at e1
      have HX : Hid (x = ws.getD k ByteArray.empty) := hx
      clear hx
      have d1 : wr.cell? ⟨w.heap.size, k, none⟩ = some (.string x) := (HF.out.2.2.2.1.cell (World.block_lt_of_cell? _ _ e1)).trans e1
      have HLr : Hid (Lib3 wr) := HL.out.below (bel HB1.out HF.out.2.2.2.1)
      clear e1
      cases hno : Dm.numO x.data.toList with
      | none =>
        have CN := number_no 9 9 (by omega) (by omega) x wr HLr.out hno
        have HP : Hid (Dm.parseE s.data.toList = 2 ∧ Dm.parseV s.data.toList = []) := by
          refine Dm.parse_bad ⟨x.data.toList, ?_, hno⟩
          rw [← HWS.out, HX.out]; exact mem_word (by rw [← HN.out]; exact hlt)
        clear hno
        go_wp2_with fail
        refine CN.mono ?_
        rintro e w3 ⟨rfl, hb3⟩
        have HB : Hid (Below w.heap.size w w3) := bel (bel HB1.out HF.out.2.2.2.1) hb3
        clear CN hb3 d1
        go_wp2_with fail
        go_ret2
        refine ⟨none, 0, ?_, ?_, HB.out⟩
        · rw [HP.out.1, HP.out.2]; rfl
        · rw [HP.out.2]; exact IntsIn.nil _ _
      | some m =>
        have CN := number_yes 9 9 (by omega) (by omega) x m wr HLr.out hno
        have HM : Hid (m = numAt ws k) := by unfold Hid numAt; rw [← HX.out, hno]; rfl
        have HK2 : Hid (∀ j, j < k + 1 → Dm.numO (ws.getD j ByteArray.empty).data.toList ≠ none) := by
          intro j hj
          rcases Nat.lt_succ_iff_lt_or_eq.1 hj with h | rfl
          · exact HK.out j h
          · rw [← HX.out, hno]; simp
        clear hno
        go_wp2_with fail
        refine CN.mono ?_
        rintro e w3 ⟨rfl, hb3⟩
        have HF2 : Hid (Fill w1 w1.heap.size N (fun j => .int .i64 (numAt ws j)) k w3) := HF.out.below (HF.out.lt hn0) hb3
        obtain ⟨old, d3⟩ := HF2.out.2.1 k hlt
        have d4 := HF2.out.2.2.1 k
        have HF3 : Hid (Fill w1 w1.heap.size N (fun j => .int .i64 (numAt ws j)) (k + 1) (w3.setCell ⟨w1.heap.size, k, none⟩ (.int .i64 m))) := HF2.out.step hlt (.int .i64 m) (by rw [HM.out])
        clear CN hb3 d1
        go_wp2_with fail
        go_roundw
        case rel => exact ⟨k + 1, by omega, by go_num, HK2, HF3⟩
        case measure => simp [intOf]; omega
    · obtain rfl : k = N := by omega
      obtain ⟨v, hv⟩ : ∃ v, v = (Dm.cut s.data.toList).map fun x => (Dm.numO x).getD 0 := ⟨_, rfl⟩
      have hna := nums_at HWS.out
      rw [← hv, ← HN.out] at hna
      have hin : IntsIn wr (some ⟨w1.heap.size, 0, none⟩) v := HF.out.ints hna.1 (fun j hj => by rw [hna.2 j hj])
      have CV := vector_any (some ⟨w1.heap.size, 0, none⟩) k k v wr hna.1 hin
      have hpa := Dm.parse_all (s := s.data.toList) (by
        intro x hx
        rw [← HWS.out] at hx
        obtain ⟨j, hj, e⟩ := word_mem hx
        rw [← e]; exact HK.out j (by rw [HN.out]; exact hj))
      rw [← hv] at hpa
      have HIN : Hid (IntsIn wr (some ⟨w1.heap.size, 0, none⟩) v) := hin
      have HVL : Hid (v.length = k) := hna.1
      have HBF : Hid (Below w.heap.size w wr) := bel HB1.out HF.out.2.2.2.1
      by_cases h0 : Dm.vecE v = 0
      · have HPE : Hid (Dm.parseE s.data.toList = 0) := by unfold Hid; rw [hpa.1, h0]
        have HPV : Hid (Dm.parseV s.data.toList = v) := by unfold Hid; rw [hpa.2, if_pos h0]
        rw [h0, errV_zero] at CV
        clear hv hna hin hpa h0
        go_wp2_with fail
        refine CV.mono ?_
        rintro e w' ⟨rfl, hw⟩
        have hw2 := hw.symm; subst hw2; clear hw CV
        go_wp2_with fail
        go_ret2
        refine ⟨some ⟨w1.heap.size, 0, none⟩, k, ?_, ?_, HBF.out⟩
        · rw [HPE.out, HPV.out, HVL.out]; rfl
        · rw [HPV.out]; exact HIN.out
      · have HPE : Hid (errV (Dm.parseE s.data.toList) = .iface 47 (.int .i64 (Dm.vecE v))) := by unfold Hid; rw [hpa.1, errV_ne h0]
        have HPV : Hid (Dm.parseV s.data.toList = []) := by unfold Hid; rw [hpa.2, if_neg h0]
        rw [errV_ne h0] at CV
        obtain ⟨q, hq⟩ : ∃ q, q = Dm.vecE v := ⟨_, rfl⟩
        rw [← hq] at CV HPE
        clear hv hna hin hpa h0 hq
        go_wp2_with fail
        refine CV.mono ?_
        rintro e w' ⟨rfl, hw⟩
        have hw2 := hw.symm; subst hw2; clear hw CV
        go_wp2_with fail
        go_ret2
        refine ⟨none, 0, ?_, ?_, HBF.out⟩
        · rw [HPE.out, HPV.out]; rfl
        · rw [HPV.out]; exact IntsIn.nil _ _

end Dl
end Go.Proofs.YtllcmfbkingfdaaGreatDoor
