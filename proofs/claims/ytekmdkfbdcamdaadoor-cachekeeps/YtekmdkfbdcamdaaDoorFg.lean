/- The walk of CacheKeeps: what is asked of package cache is a premise here. -/
import Derived.Test.YtekmdkfbdcamdaaDoorFc
import Derived.Test.YtekmdkfbdcamdaaDoorFd
import Derived.Test.YtekmdkfbdcamdaaDoorKl
import Derived.Laws.IdiomStrings
import Derived.Deep.DeepCutAuto
namespace Go.Proofs.YtekmdkfbdcamdaaDoor
namespace Fg
set_option linter.unusedVariables false
set_option linter.unusedSimpArgs false
open Go.ChangeShapes Go.WideShapes Go.ChangeAt Go.RowKit Ka Kb Ef Fc Fdd Kt Kl
open Fb (Kp Inv names used getS get? loadS loadE getE)

theorem Hid.mk' {p : Prop} (h : p) : Hid p := h
theorem infoU : (Tryd.prog.info? 5).map (fun i => (i.zero, i.size, i.bytes)) = some (some (.int .u8 0), 1, 1) := by kernel_rfl
/- a row of n bytes, the first k of them filled -/
def Fil (w : World) (g n k : Nat) : Prop := ∃ cur : Array Value, w.heap[g]? = some (.cells cur 5 (0, 0)) ∧ cur.size = n ∧ ∀ j, j < k → cur[j]? = some (.int .u8 120)
theorem Fil.cell {w : World} {g n k : Nat} (h : Fil w g n k) (hk : k < n) : (∃ u, w.cell? ⟨g, k, none⟩ = some u) ∧ w.frozen? ⟨g, k, none⟩ = false := by
  obtain ⟨cur, h1, h2, _⟩ := h
  exact ⟨⟨cur[k]'(by omega), blk_cell h1 (i := k) (Array.getElem?_eq_getElem (by omega))⟩, blk_free h1⟩
theorem Fil.put {w : World} {g n k : Nat} (h : Fil w g n k) (hk : k < n) : Fil (w.setCell ⟨g, k, none⟩ (.int .u8 120)) g n (k + 1) := by
  obtain ⟨cur, h1, h2, h3⟩ := h
  refine ⟨_, set_heap h1, by simp [h2], fun j hj => ?_⟩
  by_cases e : j = k
  · subst e; simp [h2, hk]
  · rw [Array.getElem?_setIfInBounds_ne (by omega)]; exact h3 j (by omega)
theorem Fil.stay {w w' : World} {g n k : Nat} (h : Fil w g n k) (hs : w'.heap[g]? = w.heap[g]?) : Fil w' g n k := by
  obtain ⟨cur, h1, h2⟩ := h
  exact ⟨cur, hs.trans h1, h2⟩
def tx (n : Nat) : ByteArray := ⟨(List.replicate n (120 : UInt8)).toArray⟩
theorem tx_size (n : Nat) : (tx n).size = n := by unfold tx; simp [ByteArray.size]
theorem Fil.reads {w : World} {g n : Nat} (h : Fil w g n n) (c : Nat) : (convert 22 9 (.slice (some ⟨g, 0, none⟩) n c)).run Tryd.prog w = .ok (.string (tx n)) w := by
  have h9 := run_convert_bytes_back (P := Tryd.prog) w 22 9 5 ⟨g, 0, none⟩ c (List.replicate n (120 : UInt8)) Tryd.underlying22 Tryd.underlying5 Tryd.underlying9 (fun j hj => by
    obtain ⟨cur, h1, h2, h3⟩ := h
    rw [Addr.add_lit, Nat.zero_add, List.getElem_replicate]
    rw [List.length_replicate] at hj
    exact blk_cell h1 (i := j) (h3 j hj))
  rw [List.length_replicate] at h9
  exact h9

set_option maxRecDepth 100000 in
set_option maxHeartbeats 8000000 in
theorem walk (L : CacheSays) (z : Int) (fi : Bool) (w : World) (hE : ET w) :
    Calls Tryd.prog 3 #[.int .i64 z, .bool fi] w fun e w' => e = .returned (.bool true) ∧ Below w.heap.size w w' := by
  by_cases hz : z < 1 ∨ 50 < z
  · rcases (show z < 1 ∨ (¬ z < 1 ∧ 50 < z) by omega) with h1 | ⟨h1, h2⟩
    · clear hz hE
      go_enter Tryd.func3, Tryd.ntmps3
      go_wp2_with fail
      go_ret
      exact ⟨rfl, Below.refl _ _⟩
    · clear hz hE
      go_enter Tryd.func3, Tryd.ntmps3
      go_wp2_with fail
      go_ret
      exact ⟨rfl, Below.refl _ _⟩
  · obtain ⟨n, rfl⟩ : ∃ n : Nat, z = n := ⟨z.toNat, by omega⟩
    have hn1 : 1 ≤ n := by omega
    have hn2 : n ≤ 50 := by omega
    have h1 : ¬ (n : Int) < 1 := by omega
    have h2 : ¬ (50 : Int) < n := by omega
    obtain ⟨i0, hi, hz0, hz1, hz2⟩ := info_parts infoU
    have HE := Hid.mk' hE
    clear hz hE
    go_enter Tryd.func3, Tryd.ntmps3
    go_wp2_with (at_make; refine wpList_make_full _ rfl (.tmp 20) (.tmp 20) 22 rfl w.heap.size 5 i0 (.int .u8 0) 1 Tryd.underlying22 hi hz0 hz1 .i64 .i64 (n : Int) (n : Int) n rfl rfl rfl rfl (by rw [hz2]; omega) (by unfold maxLen; omega) (Nat.le_refl _) ?_; intro w1 hown hgrow; have HB1 : Hid (Below w.heap.size w w1) := ⟨hgrow.os, hgrow.tape, hgrow.output, hgrow.size, fun g hg => hgrow.block g hg (fun e => by cases e)⟩; have HF1 : Hid (Fil w1 w.heap.size n 0) := (by rcases hown.2 with ⟨e, _⟩ | ⟨g, cap, cur, e, _, hc, _, _, hs, _⟩; exact absurd e (by intro e; cases e); injection e with e1 _ e3; injection e1 with e1; injection e1 with e1 _; subst e1; exact ⟨cur, hc, by rw [hs, e3, Nat.mul_one], fun j hj => absurd hj (by omega)⟩); clear hown hgrow)
    obtain ⟨gb, hgb⟩ : ∃ gb, gb = w.heap.size := ⟨_, rfl⟩
    rw [← hgb] at HF1 ⊢
    have HGB : Hid (w.heap.size ≤ gb) := Nat.le_of_eq hgb.symm
    clear hgb
    go_loopw [6] (fun v6 wr => ∃ k : Nat, k ≤ n ∧ v6 = .int .i64 k ∧ Hid (Fil wr gb n k) ∧ Hid (Below w.heap.size w wr)) (fun v6 _ => n - (intOf v6).toNat)
    case atStart => exact ⟨0, by omega, rfl, HF1.out, HB1.out⟩
    case round =>
      obtain ⟨k, hk, rfl, HF, HB⟩ := hrel
      by_cases hkn : k < n
      · have hkz : (k : Int) < n := by omega
        obtain ⟨⟨u0, hu0⟩, hfr⟩ := HF.out.cell hkn
        have HF2 : Hid (Fil (wr.setCell ⟨gb, k, none⟩ (.int .u8 120)) gb n (k + 1)) := HF.out.put hkn
        have HB2 : Hid (Below w.heap.size w (wr.setCell ⟨gb, k, none⟩ (.int .u8 120))) := HB.out.setCell (p := ⟨gb, k, none⟩) HGB.out _
        go_wp2_with fail
        go_roundw
        case rel => exact ⟨k + 1, by omega, by go_num, HF2.out, HB2.out⟩
        case measure => simp [intOf]; omega
      · have hkz : ¬ (k : Int) < n := by omega
        obtain rfl : k = n := by omega
        have HFL : Hid (gb < wr.heap.size) := by obtain ⟨cur, h9, _⟩ := HF.out; exact (Array.getElem?_eq_some_iff.1 h9).1
        obtain ⟨t, ht⟩ : ∃ t, t = tx k := ⟨_, rfl⟩
        have HTZ : Hid (t.size = k) := by rw [Hid, ht]; exact tx_size k
        have HCV : Hid (∀ W, W.heap[gb]? = wr.heap[gb]? → (convert 22 9 (.slice (some ⟨gb, 0, none⟩) k k)).run Tryd.prog W = .ok (.string t) W) := fun W hW => by rw [ht]; exact (HF.out.stay hW).reads k
        obtain ⟨b, hb⟩ : ∃ b : Nat, b = 2 * k := ⟨_, rfl⟩
        have hbz : (2 : Int) * (k : Int) = (b : Int) := by omega
        have HBB := Hid.mk' hb
        have CN := new_ok L (b : Int) wr (by unfold Fb.newE; rw [if_neg (by omega)])
        clear ht hb HF1 HB1
        go_wp2_with fail
        refine CN.mono ?_
        rintro e w2 ⟨X, F2, rfl, h2x, hf2, hb2⟩
        have HC2 : Hid (Cc L wr w2 X b [] F2) := ⟨h2x, hf2, hb2⟩
        obtain ⟨e1, e2, e3⟩ := okE (b := b) (t := t) (by have h8 := HTZ.out; have h9 := HBB.out; omega)
        have HEB := Hid.mk' (And.intro e1 (And.intro e2 e3))
        have HTM : Hid (t.size ≤ maxLen) := by rw [Hid, HTZ.out]; unfold maxLen; omega
        have hb9 : b ≤ 10000 := by have h9 := HBB.out; omega
        have hcv := HCV.out w2 (hb2.block gb HFL.out)
        have C1 := L.load X b [] F2 bb t w2 h2x ⟨hb9, Nat.le_of_ble_eq_true rfl⟩ (by unfold maxLen; decide) HTM.out
        rw [e1, loadS_ok e1, load1 (by have h8 := HTZ.out; have h9 := HBB.out; omega), errV_zero] at C1
        clear h2x hf2 hb2 CN e1 e2 e3
        go_wp2_with fail
        refine C1.mono ?_
        rintro e w3 ⟨rfl, hl3⟩
        obtain ⟨F3, hC3⟩ := HC2.out.set hl3
        have HC3 := Hid.mk' hC3
        have hcv3 := HCV.out w3 (hC3.bel.block gb HFL.out)
        have C2 := L.load X b [(bb, t)] F3 cb t w3 hC3.at' ⟨hb9, Nat.le_of_ble_eq_true rfl⟩ (by unfold maxLen; decide) HTM.out
        rw [HEB.out.2.1, loadS_ok HEB.out.2.1, load2 ne1 (by have h8 := HTZ.out; have h9 := HBB.out; omega), errV_zero] at C2
        clear hl3 hC3 C1 hcv
        go_wp2_with fail
        refine C2.mono ?_
        rintro e w4 ⟨rfl, hl4⟩
        obtain ⟨F4, hC4⟩ := HC3.out.set hl4
        have HC4 := Hid.mk' hC4
        clear hl4 hC4 C2 hcv3 HC3 HC2
        cases fi
        · have CG := L.get X b [(bb, t), (cb, t)] F4 cb w4 HC4.out.at' ⟨hb9, Nat.le_of_ble_eq_true rfl⟩ (by unfold maxLen; decide)
          rw [show (get? cb [(bb, t), (cb, t)]).getD Fb.e0 = t by rw [(get2 (t := t) ne1).1]; rfl, show getE cb [(bb, t), (cb, t)] = 0 by unfold getE; rw [if_neg (by rw [(get2 (t := t) ne1).1]; simp)], (get2 (t := t) ne1).2, errV_zero] at CG
          go_wp2_with fail
          refine CG.mono ?_
          rintro e w5 ⟨rfl, hl5⟩
          obtain ⟨F5, hC5⟩ := HC4.out.set hl5
          have HC5 := Hid.mk' hC5
          have hcv5 := HCV.out w5 (hC5.bel.block gb HFL.out)
          have C3 := L.load X b [(bb, t), (cb, t)] F5 db t w5 hC5.at' ⟨hb9, Nat.le_of_ble_eq_true rfl⟩ (by unfold maxLen; decide) HTM.out
          rw [HEB.out.2.2, loadS_ok HEB.out.2.2, load3 ne2 ne3 (by rw [HTZ.out]; exact HBB.out) (by rw [HTZ.out]; exact hn1), errV_zero] at C3
          clear hl5 hC5 CG HC4
          go_wp2_with fail
          refine C3.mono ?_
          rintro e w6 ⟨rfl, hl6⟩
          obtain ⟨F6, hC6⟩ := HC5.out.set hl6
          have HC6 := Hid.mk' hC6
          have CP := L.places X b [(cb, t), (db, t)] F6 w6 hC6.at' ⟨hb9, Nat.le_of_ble_eq_true rfl⟩
          clear hl6 hC6 C3 hcv5 HC5
          go_wp2_with fail
          refine CP.mono ?_
          rintro e w7 ⟨p7, n7, c7, rfl, ht7, hb7⟩
          have HC7 := Hid.mk' (HC6.out.below hb7)
          have HR7 : Hid (∀ g, New w6.heap.size w7 g → g < w7.heap.size ∧ ¬ F6 g) := fun g hg => ⟨hg.2, fun e => by have h8 := L.lt HC6.out.at' g e; have h9 := hg.1; omega⟩
          have HT7 := Hid.mk' ht7
          have CG2 := L.get X b [(cb, t), (db, t)] F6 bb w7 HC7.out.at' ⟨hb9, Nat.le_of_ble_eq_true rfl⟩ (by unfold maxLen; decide)
          have hgn : getE bb [(cb, t), (db, t)] = 5 := gone ne1.symm ne2.symm
          have hgn2 : get? bb [(cb, t), (db, t)] = none := by unfold getE at hgn; split at hgn; assumption; cases hgn
          rw [hgn, show getS bb [(cb, t), (db, t)] = [(cb, t), (db, t)] by unfold getS; rw [hgn2]] at CG2
          obtain ⟨tv, htv⟩ : ∃ tv, tv = (get? bb [(cb, t), (db, t)]).getD Fb.e0 := ⟨_, rfl⟩
          rw [← htv] at CG2
          clear ht7 hb7 CP HC6 hgn hgn2 htv
          go_wp2_with fail
          refine CG2.mono ?_
          rintro e w8 ⟨rfl, hl8⟩
          obtain ⟨F8, hC8⟩ := HC7.out.set hl8
          have HC8 := Hid.mk' hC8
          obtain ⟨_, _, hc8, _⟩ := hl8
          have HT8 : Hid (TxJ (New w6.heap.size w7) w8 (.slice p7 n7 c7) [cb, db]) := HT7.out.stay (hc8.stay HR7.out)
          obtain ⟨b7, o7, rfl, rfl, y0, y1⟩ : ∃ b o, p7 = some ⟨b, o, none⟩ ∧ n7 = 2 ∧ w8.cell? ⟨b, o, none⟩ = some (.string ⟨#[99, 98]⟩) ∧ w8.cell? ⟨b, o + 1, none⟩ = some (.string ⟨#[100, 98]⟩) := by
            obtain ⟨p9, c9, e9, h9, _⟩ := HT8.out
            injection e9 with e9 e8 _
            obtain ⟨b, o, hp, _, hc⟩ := h9.some (by intro e; cases e)
            exact ⟨b, o, by rw [e9]; exact hp, e8, hc 0 (by decide), hc 1 (by decide)⟩
          have CE := same_any 5 5 w8 (ET.below HE.out (Ef.bel HB.out HC8.out.bel))
          rw [errV_ne (by decide)] at CE ⊢
          have HUS : Hid (used [(cb, t), (db, t)] = b) := by rw [Hid]; simp [used]; have h8 := HTZ.out; have h9 := HBB.out; omega
          clear hC8 hc8 CG2 HC7 HT7 HR7 HT8
          go_wp2_with fail
          refine CE.mono ?_
          rintro e w9 ⟨rfl, hb9'⟩
          have HC9 := Hid.mk' (HC8.out.below hb9')
          have CU := L.used X b [(cb, t), (db, t)] F8 w9 HC9.out.at' ⟨hb9, Nat.le_of_ble_eq_true rfl⟩
          rw [HUS.out] at CU
          clear hb9' CE HC8
          go_wp2_with fail
          refine CU.mono ?_
          rintro e w10 ⟨rfl, hb10⟩
          have HB10 : Hid (Below w.heap.size w w10) := Ef.bel HB.out (Ef.bel HC9.out.bel hb10)
          clear hb10 CU HC9
          go_wp2_with fail
          go_ret
          exact ⟨rfl, HB10.out⟩
        · have CG := L.get X b [(bb, t), (cb, t)] F4 bb w4 HC4.out.at' ⟨hb9, Nat.le_of_ble_eq_true rfl⟩ (by unfold maxLen; decide)
          rw [show (get? bb [(bb, t), (cb, t)]).getD Fb.e0 = t by rw [(get1 (t := t) ne1).1]; rfl, show getE bb [(bb, t), (cb, t)] = 0 by unfold getE; rw [if_neg (by rw [(get1 (t := t) ne1).1]; simp)], (get1 (t := t) ne1).2, errV_zero] at CG
          go_wp2_with fail
          refine CG.mono ?_
          rintro e w5 ⟨rfl, hl5⟩
          obtain ⟨F5, hC5⟩ := HC4.out.set hl5
          have HC5 := Hid.mk' hC5
          have hcv5 := HCV.out w5 (hC5.bel.block gb HFL.out)
          have C3 := L.load X b [(cb, t), (bb, t)] F5 db t w5 hC5.at' ⟨hb9, Nat.le_of_ble_eq_true rfl⟩ (by unfold maxLen; decide) HTM.out
          rw [HEB.out.2.2, loadS_ok HEB.out.2.2, load3 ne3 ne2 (by rw [HTZ.out]; exact HBB.out) (by rw [HTZ.out]; exact hn1), errV_zero] at C3
          clear hl5 hC5 CG HC4
          go_wp2_with fail
          refine C3.mono ?_
          rintro e w6 ⟨rfl, hl6⟩
          obtain ⟨F6, hC6⟩ := HC5.out.set hl6
          have HC6 := Hid.mk' hC6
          have CP := L.places X b [(bb, t), (db, t)] F6 w6 hC6.at' ⟨hb9, Nat.le_of_ble_eq_true rfl⟩
          clear hl6 hC6 C3 hcv5 HC5
          go_wp2_with fail
          refine CP.mono ?_
          rintro e w7 ⟨p7, n7, c7, rfl, ht7, hb7⟩
          have HC7 := Hid.mk' (HC6.out.below hb7)
          have HR7 : Hid (∀ g, New w6.heap.size w7 g → g < w7.heap.size ∧ ¬ F6 g) := fun g hg => ⟨hg.2, fun e => by have h8 := L.lt HC6.out.at' g e; have h9 := hg.1; omega⟩
          have HT7 := Hid.mk' ht7
          have CG2 := L.get X b [(bb, t), (db, t)] F6 cb w7 HC7.out.at' ⟨hb9, Nat.le_of_ble_eq_true rfl⟩ (by unfold maxLen; decide)
          have hgn : getE cb [(bb, t), (db, t)] = 5 := gone ne1 ne3.symm
          have hgn2 : get? cb [(bb, t), (db, t)] = none := by unfold getE at hgn; split at hgn; assumption; cases hgn
          rw [hgn, show getS cb [(bb, t), (db, t)] = [(bb, t), (db, t)] by unfold getS; rw [hgn2]] at CG2
          obtain ⟨tv, htv⟩ : ∃ tv, tv = (get? cb [(bb, t), (db, t)]).getD Fb.e0 := ⟨_, rfl⟩
          rw [← htv] at CG2
          clear ht7 hb7 CP HC6 hgn hgn2 htv
          go_wp2_with fail
          refine CG2.mono ?_
          rintro e w8 ⟨rfl, hl8⟩
          obtain ⟨F8, hC8⟩ := HC7.out.set hl8
          have HC8 := Hid.mk' hC8
          obtain ⟨_, _, hc8, _⟩ := hl8
          have HT8 : Hid (TxJ (New w6.heap.size w7) w8 (.slice p7 n7 c7) [bb, db]) := HT7.out.stay (hc8.stay HR7.out)
          obtain ⟨b7, o7, rfl, rfl, y0, y1⟩ : ∃ b o, p7 = some ⟨b, o, none⟩ ∧ n7 = 2 ∧ w8.cell? ⟨b, o, none⟩ = some (.string ⟨#[98, 98]⟩) ∧ w8.cell? ⟨b, o + 1, none⟩ = some (.string ⟨#[100, 98]⟩) := by
            obtain ⟨p9, c9, e9, h9, _⟩ := HT8.out
            injection e9 with e9 e8 _
            obtain ⟨b, o, hp, _, hc⟩ := h9.some (by intro e; cases e)
            exact ⟨b, o, by rw [e9]; exact hp, e8, hc 0 (by decide), hc 1 (by decide)⟩
          have CE := same_any 5 5 w8 (ET.below HE.out (Ef.bel HB.out HC8.out.bel))
          rw [errV_ne (by decide)] at CE ⊢
          have HUS : Hid (used [(bb, t), (db, t)] = b) := by rw [Hid]; simp [used]; have h8 := HTZ.out; have h9 := HBB.out; omega
          clear hC8 hc8 CG2 HC7 HT7 HR7 HT8
          go_wp2_with fail
          refine CE.mono ?_
          rintro e w9 ⟨rfl, hb9'⟩
          have HC9 := Hid.mk' (HC8.out.below hb9')
          have CU := L.used X b [(bb, t), (db, t)] F8 w9 HC9.out.at' ⟨hb9, Nat.le_of_ble_eq_true rfl⟩
          rw [HUS.out] at CU
          clear hb9' CE HC8
          go_wp2_with fail
          refine CU.mono ?_
          rintro e w10 ⟨rfl, hb10⟩
          have HB10 : Hid (Below w.heap.size w w10) := Ef.bel HB.out (Ef.bel HC9.out.bel hb10)
          clear hb10 CU HC9
          go_wp2_with fail
          go_ret
          exact ⟨rfl, HB10.out⟩

end Fg
end Go.Proofs.YtekmdkfbdcamdaaDoor
