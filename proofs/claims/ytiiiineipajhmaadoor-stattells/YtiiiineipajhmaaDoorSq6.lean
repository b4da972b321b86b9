/- StatTells' walk. -/
import Derived.Test.YtiiiineipajhmaaDoorSq4
import Derived.Test.YtiiiineipajhmaaDoorSq5
import Derived.Test.YtiiiineipajhmaaDoorK1
import Derived.Test.YtiiiineipajhmaaDoorJ14
import Derived.Test.YtiiiineipajhmaaDoorJ9
import Derived.Test.YtiiiineipajhmaaDoorJ3
import Derived.Laws.StructEq
namespace Go.Proofs.YtiiiineipajhmaaDoor
namespace Sq6
set_option linter.unusedVariables false
open Go.ChangeShapes Go.WideShapes Go.ChangeAt Go.RowKit Ka Kb Kt Kl Sq1 Sq2 Sq3 Sq4 Sq5
open Bm (Leaf none0 bookE leafE isS text bookE_zero getD_mem)
open La (bel bel_drew errV_zero errV_ne own_ge own_grow own_below LeafsIn)
open Lj (BookAt)
open Ma (book_ref)
open Dg (ints_any)
open Za (IntsIn)

theorem und2 : Tryd.prog.underlying 27 = some (.array 2 3) := by kernel_rfl
theorem guard2 : Tryd.prog.eqGuardType Tryd.prog.depth 27 = false := by kernel_rfl
theorem pair_in (d : Nat) (w : World) (a b : Int) : (Op.equalIn (d + 2) 27 (.agg #[.int .i64 a, .int .i64 b]) (.agg #[.int .i64 a, .int .i64 b])).run Tryd.prog w = .ok true w := by
  have a3 := Tryd.isAgg3
  have z3 := Tryd.sizeOf3
  have he : ∀ x w, (Op.equalIn (d + 1) 3 (.int .i64 x) (.int .i64 x)).run Tryd.prog w = .ok true w := fun x w => by
    rw [run_equalIn_int w d 3 .i64 .i64 x x Tryd.underlying3]; simp
  generalize hd : d + 1 = d1 at he
  rw [show d + 2 = d1 + 1 by omega]
  clear hd
  unfold Op.equalIn
  simp only [Sem.run_bind, run_underlying und2, Result.andThen_ok]
  simp [Std.Legacy.Range.forIn_eq_forIn_range', Std.Legacy.Range.size, List.range', go_sem, a3, z3, he, part, Result.andThen]
theorem pair_ne (w : World) (a b : Int) : (binOp .neq 27 (.agg #[.int .i64 a, .int .i64 b]) (.agg #[.int .i64 a, .int .i64 b])).run Tryd.prog w = .ok (.bool false) w := by
  rw [run_neq_struct, show (10000 : Nat) = 9998 + 2 from rfl, pair_in]; rfl
theorem own_ints {B : Nat} {w : World} {p : Option Addr} {n c : Nat} {xs : List Int} (h : OwnI B w (.slice p n c) xs) (hn : xs.length = n) : IntsIn w p xs := by
  by_cases h0 : xs = []
  · exact Or.inl h0
  · obtain ⟨q, d, e, hq⟩ := h.shape
    obtain ⟨g, hg, _⟩ := hq (List.length_pos_iff.2 h0)
    injection e with e1 _ _
    rw [e1, hg] at h
    refine Or.inr ⟨g, 0, by rw [e1, hg], fun j hj => ?_⟩
    rw [Nat.zero_add]; exact (h.cell hn (by omega)).1
theorem own_other {w : World} {B : Nat} {t : TypeId} {z n g : Nat} {v u : Value} {xs : List Value} {i : Nat} (h : w.ownsRow B t z v n xs) (hg : g < B) : (w.setCell ⟨g, i, none⟩ u).ownsRow B t z v n xs :=
  ownsRow_setCell_other h (a := ⟨g, i, none⟩) (fun e => by have := own_ge h g e; omega) u

set_option maxRecDepth 100000 in
set_option maxHeartbeats 8000000 in
theorem bad (p : Option Addr) (n c : Nat) (l : List Leaf) (w : World) (hl : l.length = n) (h : LeafsIn w p l) (hs : ∀ x ∈ l, x.1.size ≤ maxLen) (hn : n ≤ maxLen) (h0 : bookE l ≠ 0) (hg : ET w) :
    Calls Tryd.prog 3 #[.slice p n c] w fun e w' => e = .returned (.bool true) ∧ Below w.heap.size w w' := by
  have CB := book_ref p n c l w hl h hs hn
  have CW : ∀ w, LeafsIn w p l → _ := fun w hI => written_any p n c l w hl hI hs hn
  have CS : ∀ w, LeafsIn w p l → _ := fun w hI => struck_any p n c l w hl hI hs hn
  have CR : ∀ w, LeafsIn w p l → _ := fun w hI => runs_any p n c l w hl hI hs hn
  have CL : ∀ w, LeafsIn w p l → _ := fun w hI => longest_any p n c l w hl hI hs hn
  have hn0 : (0 : Int) < n := by
    rcases Nat.eq_zero_or_pos n with e | e
    · exfalso; apply h0; rw [List.eq_nil_of_length_eq_zero (by omega : l.length = 0)]; rfl
    · omega
  rw [show wrtR l = [] by unfold wrtR; rw [if_neg h0]] at CW
  rw [show struckR l = 0 by unfold struckR; rw [if_neg h0]] at CS
  rw [show runsR l = [] by unfold runsR; rw [if_neg h0]] at CR
  rw [show longestR l = 0 by unfold longestR; rw [if_neg h0]] at CL
  obtain ⟨q, hq⟩ : ∃ q, q = bookE l := ⟨_, rfl⟩
  rw [errV_ne h0] at CW CS CR CL
  rw [← hq] at CB CW CS CR CL h0
  have hq0 : (q == 0) = false := by simpa using h0
  obtain ⟨i0, hi, hz0, hz1, hz2⟩ := info_parts Sq3.infoInt
  have HI : Hid (LeafsIn w p l) := h
  have HG : Hid (ET w) := hg
  have HCW : Hid _ := CW
  have HCS : Hid _ := CS
  have HCR : Hid _ := CR
  have HCL : Hid _ := CL
  unfold maxLen at hn
  clear hl h hs hg hq h0 CW CS CR CL
  go_enter Tryd.func3, Tryd.ntmps3
  go_wp2_with fail
  refine CB.mono ?_
  rintro e w1 ⟨rfl, hb1⟩
  have K1 : Hid (Below w.heap.size w w1) := hb1
  clear CB hb1
  go_wp2_with (at_make; refine wpList_make_full _ rfl (.const (.int .i64 8)) (.const (.int .i64 8)) 25 rfl w1.heap.size 3 i0 (.int .i64 0) 1 Tryd.underlying25 hi hz0 hz1 .i64 .i64 8 8 8 rfl rfl rfl rfl (by rw [hz2]; omega) (by unfold maxLen; omega) (Nat.le_refl _) ?_; intro w2 hown hgrow; have K2 : Hid (Below w.heap.size w w2) := (bel K1.out ⟨hgrow.os, hgrow.tape, hgrow.output, hgrow.size, fun k hk => hgrow.block k hk (by intro e; cases e)⟩); clear hown hgrow)
  go_loop [8] (fun i => i = .int .i64 0) (fun i => 0)
  case atStart => rfl
  case round =>
    subst hrel
    go_wp2
    go_loop [6, 7, 9] (fun a b i => a = .int .i64 0 ∧ b = .int .i64 0 ∧ i = .int .i64 0) (fun a b i => 0)
    case atStart => exact ⟨rfl, rfl, rfl⟩
    case round =>
      obtain ⟨rfl, rfl, rfl⟩ := hrel
      go_wp2_with fail
      refine (HCW.out w2 (HI.out.below K2.out)).mono ?_
      rintro e w3 ⟨v3, rfl, HO3, hb3⟩
      have K3 : Hid (Below w.heap.size w w3) := bel K2.out hb3.out
      clear hb3
      obtain ⟨q3, c3, rfl, _⟩ := HO3.out.shape
      rw [show ([] : List Int).length = 0 from rfl]
      go_wp2_with fail
      refine (same_err q q w3 (ET.below HG.out K3.out)).mono ?_
      rintro e w4 ⟨rfl, hb4⟩
      have K4 : Hid (Below w.heap.size w w4) := bel K3.out hb4
      clear hb4
      rw [beq_self_eq_true]
      go_wp2_with fail
      refine (ints_any q3 none 0 0 c3 0 [] [] w4 rfl rfl (by omega) (Or.inl rfl) (Or.inl rfl)).mono ?_
      rintro e w5 ⟨rfl, hb5⟩
      have K5 : Hid (Below w.heap.size w w5) := bel K4.out hb5
      clear hb5
      rw [show (([] : List Int) == []) = true from rfl]
      go_wp2_with fail
      refine (HCS.out w5 (HI.out.below K5.out)).mono ?_
      rintro e w6 ⟨rfl, hb6⟩
      have K6 : Hid (Below w.heap.size w w6) := bel K5.out hb6.out
      clear hb6
      go_wp2_with fail
      refine (same_err q q w6 (ET.below HG.out K6.out)).mono ?_
      rintro e w7 ⟨rfl, hb7⟩
      have K7 : Hid (Below w.heap.size w w7) := bel K6.out hb7
      clear hb7
      rw [beq_self_eq_true]
      go_wp2_with fail
      refine (HCR.out w7 (HI.out.below K7.out)).mono ?_
      rintro e w8 ⟨v8, rfl, HO8, hb8⟩
      have K8 : Hid (Below w.heap.size w w8) := bel K7.out hb8.out
      clear hb8
      obtain ⟨q8, c8, rfl, _⟩ := HO8.out.shape
      rw [show ([] : List Pr).length = 0 from rfl]
      go_wp2_with fail
      refine (same_err q q w8 (ET.below HG.out K8.out)).mono ?_
      rintro e w9 ⟨rfl, hb9⟩
      have K9 : Hid (Below w.heap.size w w9) := bel K8.out hb9
      clear hb9
      rw [beq_self_eq_true]
      go_wp2_with fail
      refine (HCL.out w9 (HI.out.below K9.out)).mono ?_
      rintro e w10 ⟨rfl, hb10⟩
      have K10 : Hid (Below w.heap.size w w10) := bel K9.out hb10.out
      clear hb10
      go_wp2_with fail
      refine (same_err q q w10 (ET.below HG.out K10.out)).mono ?_
      rintro e w11 ⟨rfl, hb11⟩
      have K11 : Hid (Below w.heap.size w w11) := bel K10.out hb11
      clear hb11
      rw [beq_self_eq_true]
      go_wp2_with fail
      go_loop [20] (fun i => i = .int .i64 0) (fun i => 0)
      case atStart => rfl
      case round =>
        subst hrel
        go_wp2
        go_ret
        exact ⟨rfl, K11.out⟩

set_option maxRecDepth 100000 in
set_option maxHeartbeats 8000000 in
theorem good (p : Option Addr) (n c : Nat) (l : List Leaf) (w : World) (hl : l.length = n) (h : LeafsIn w p l) (hs : ∀ x ∈ l, x.1.size ≤ maxLen) (hn : n ≤ maxLen) (h0 : bookE l = 0) (hg : ET w) :
    Calls Tryd.prog 3 #[.slice p n c] w fun e w' => e = .returned (.bool true) ∧ Below w.heap.size w w' := by
  have CB := book_ref p n c l w hl h hs hn
  have CF : ∀ w, LeafsIn w p l → _ := fun w hI => runs_ref p n c l w hl hI h0
  have CW : ∀ w, LeafsIn w p l → _ := fun w hI => written_any p n c l w hl hI hs hn
  have CS : ∀ w, LeafsIn w p l → _ := fun w hI => struck_any p n c l w hl hI hs hn
  have CR : ∀ w, LeafsIn w p l → _ := fun w hI => runs_any p n c l w hl hI hs hn
  have CL : ∀ w, LeafsIn w p l → _ := fun w hI => longest_any p n c l w hl hI hs hn
  have eS : struckR l = struck l := by unfold struckR; rw [if_pos h0]
  have eL : longestR l = longest l := by unfold longestR; rw [if_pos h0]
  rw [show wrtR l = wrt (runs l) by unfold wrtR; rw [if_pos h0]] at CW
  rw [show runsR l = runs l by unfold runsR; rw [if_pos h0]] at CR
  rw [eS] at CS
  rw [eL] at CL
  obtain ⟨hb1, hb2, _⟩ := bookE_zero.1 h0
  have hn3 : n ≤ 300 := by omega
  have HE : Hid (∀ x ∈ l, leafE x = 0) := hb2
  have HRN : Hid (Rn (runs l) (text l).length) := runs_ok hb2
  have htl : (text l).length ≤ 300 := Nat.le_trans (Bm.text_len_le l) hb1
  obtain ⟨r, hr⟩ : ∃ r, r = runs l := ⟨_, rfl⟩
  obtain ⟨tn, htn⟩ : ∃ tn, tn = (text l).length := ⟨_, rfl⟩
  obtain ⟨sl, hsl⟩ : ∃ sl, sl = struck l := ⟨_, rfl⟩
  obtain ⟨ll, hll⟩ : ∃ ll, ll = longest l := ⟨_, rfl⟩
  rw [← hr, ← htn] at HRN
  rw [← hr] at CF CW CR
  rw [← hsl] at CS
  rw [← hll] at CL
  rw [← htn] at htl
  have HSL : Hid (sl = struck l) := hsl
  have HLL : Hid (ll = longest l) := hll
  rw [h0] at CB
  rw [h0, errV_zero] at CW CS CR CL
  obtain ⟨i0, hi, hz0, hz1, hz2⟩ := info_parts Sq3.infoInt
  have HL : Hid (l.length = n) := hl
  have HI : Hid (LeafsIn w p l) := h
  have HG : Hid (ET w) := hg
  have HCF : Hid _ := CF
  have HCW : Hid _ := CW
  have HCS : Hid _ := CS
  have HCR : Hid _ := CR
  have HCL : Hid _ := CL
  obtain ⟨m, hm⟩ : ∃ m, m = r.length := ⟨_, rfl⟩
  have HM : Hid (r.length = m) := hm.symm
  have hm3 : m ≤ 300 := by have := HRN.out.len; omega
  have HPN := pair_ne
  have hgd := guard2
  unfold maxLen at hn
  clear hl h hs hg h0 CF CW CS CR CL hr htn hsl hll eS eL hb1 hb2 hm
  go_enter Tryd.func3, Tryd.ntmps3
  go_wp2_with fail
  refine CB.mono ?_
  rintro e w1 ⟨rfl, hb1⟩
  have K1 : Hid (Below w.heap.size w w1) := hb1
  clear CB hb1
  go_wp2_with (at_make; refine wpList_make_full _ rfl (.const (.int .i64 8)) (.const (.int .i64 8)) 25 rfl w1.heap.size 3 i0 (.int .i64 0) 1 Tryd.underlying25 hi hz0 hz1 .i64 .i64 8 8 8 rfl rfl rfl rfl (by rw [hz2]; omega) (by unfold maxLen; omega) (Nat.le_refl _) ?_; intro w2 hown hgrow; have K2 : Hid (Below w.heap.size w w2) := (bel K1.out ⟨hgrow.os, hgrow.tape, hgrow.output, hgrow.size, fun k hk => hgrow.block k hk (by intro e; cases e)⟩); have HW2 : Hid (OwnI w1.heap.size w2 (.slice (some ⟨w1.heap.size, 0, none⟩) 8 8) (wrt (r.take 0))) := (by have h9 := hown; rw [made8] at h9; exact h9); clear hown hgrow)
  refine (HCF.out w2 (HI.out.below K2.out)).mono ?_
  rintro e w3 ⟨v3, rfl, HO3, hb3⟩
  have K3 : Hid (Below w.heap.size w w3) := bel K2.out hb3.out
  have HW3 : Hid (OwnI w1.heap.size w3 (.slice (some ⟨w1.heap.size, 0, none⟩) 8 8) (wrt (r.take 0))) := own_below HW2.out hb3.out
  have hlt12 : w1.heap.size < w2.heap.size := (HW2.out.lt w1.heap.size rfl).2
  clear hb3 HW2
  obtain ⟨q3, c3, rfl, hq3⟩ := HO3.out.shape
  have HQ : Hid (0 < r.length → ∃ g, q3 = some ⟨g, 0, none⟩ ∧ w2.heap.size ≤ g) := hq3
  rw [HM.out] at HO3 HQ ⊢
  clear hq3
  go_wp2_with fail
  go_loopw [8] (fun i wr => ∃ (k : Nat), k ≤ m ∧ i = .int .i64 k ∧ Hid (OwnI w1.heap.size wr (.slice (some ⟨w1.heap.size, 0, none⟩) 8 8) (wrt (r.take k))) ∧ Hid (Own w2.heap.size wr (.slice q3 m c3) r) ∧ Hid (Below w.heap.size w wr)) (fun i _ => m - (intOf i).toNat)
  case atStart => exact ⟨0, by omega, rfl, HW3, HO3, K3⟩
  case round =>
    clear HW3 HO3 K3
    obtain ⟨k, hk, rfl, HW, HO, K⟩ := hrel
    by_cases hlt : k < m
    · have hltz : (k : Int) < m := by omega
      obtain ⟨g, rfl, hg⟩ := HQ.out (by omega)
      obtain ⟨a1, a2⟩ := HO.out.cells HM.out hlt
      have hkr : k < r.length := by rw [HM.out]; exact hlt
      have HT : Hid (wrt (r.take (k + 1)) = addW (wrt (r.take k)) (r.getD k zp)) := wrt_take hkr
      have hwho := HRN.out.who k hkr
      have hman := HRN.out.many k hkr
      have hle := HRN.out.le k
      obtain ⟨M, hWn, hM0, hM1⟩ := HRN.out.wrt_take k
      obtain ⟨y, hy⟩ : ∃ y, y = r.getD k zp := ⟨_, rfl⟩
      rw [← hy] at a1 a2 HT hwho hman hle
      obtain ⟨ya, ym⟩ := y
      simp only at a1 a2 hwho hman hle
      obtain ⟨j, hj⟩ : ∃ j, j = at8 (ya, ym) := ⟨_, rfl⟩
      have hj8 : j < 8 := by rw [hj]; unfold at8; simp only; omega
      have hjw : IntKind.i64.wrap (ya - 1) = (j : Int) := by rw [wrap_in (by omega) (by omega), hj]; unfold at8; simp only; omega
      obtain ⟨d1, d2⟩ := HW.out.cell hWn.len hj8
      obtain ⟨x, hx⟩ : ∃ x, x = (wrt (r.take k)).getD j 0 := ⟨_, rfl⟩
      have hxb := hWn.le j
      rw [← hx] at d1 hxb
      obtain ⟨z, hzz⟩ : ∃ z, z = x + ym := ⟨_, rfl⟩
      have hsw : IntKind.i64.wrap (x + ym) = z := by rw [wrap_in (by omega) (by omega), hzz]
      have HN : Hid (OwnI w1.heap.size (wr.setCell ⟨w1.heap.size, j, none⟩ (.int .i64 z)) (.slice (some ⟨w1.heap.size, 0, none⟩) 8 8) (wrt (r.take (k + 1)))) := by
        unfold Hid; rw [HT.out]; unfold addW; rw [← hj, ← hx]; show OwnI _ _ _ ((wrt (r.take k)).set j (x + ym)); rw [← hzz]; exact HW.out.put hWn.len j z
      have HON : Hid (Own w2.heap.size (wr.setCell ⟨w1.heap.size, j, none⟩ (.int .i64 z)) (.slice (some ⟨g, 0, none⟩) m c3) r) := own_other HO.out hlt12
      have KN : Hid (Below w.heap.size w (wr.setCell ⟨w1.heap.size, j, none⟩ (.int .i64 z))) := K.out.setCell K1.out.size _
      have hz1' : (0 : Int) ≤ (j : Int) := by omega
      have hz2' : (j : Int) < 8 := by omega
      clear hwho hman hle hWn hM0 hM1 hy hj hx hxb hzz hkr HW HO K
      go_wp2
      go_region
      generalize hwg : World.setCell _ _ _ = wg at HN HON KN ⊢
      clear hwg
      go_wp2
      go_roundw
      case rel => exact ⟨k + 1, by omega, by go_num, HN.out, HON.out, bel_dr KN.out⟩
      case measure => simp [intOf]; omega
    · obtain rfl : m = k := by omega
      have HWE : Hid (OwnI w1.heap.size wr (.slice (some ⟨w1.heap.size, 0, none⟩) 8 8) (wrt r)) := by
        have := HW.out
        rwa [List.take_of_length_le (by rw [HM.out]; exact Nat.le_refl _)] at this
      have hWn : Hid ((wrt r).length = 8) := HRN.out.wrt.len
      clear HW
      go_wp2_with fail
      go_loop [6, 7, 9] (fun a b i => ∃ (k x y : Nat), k ≤ n ∧ i = .int .i64 k ∧ a = .int .i64 x ∧ b = .int .i64 y ∧ Hid (x = struck (l.take k)) ∧ Hid (y = longest (l.take k))) (fun a b i => n - (intOf i).toNat)
      case atStart => exact ⟨0, 0, 0, by omega, rfl, rfl, rfl, rfl, rfl⟩
      case round =>
        obtain ⟨k, x, y, hk, rfl, rfl, rfl, HX, HY⟩ := hrel
        by_cases hlt : k < n
        · have hltz : (k : Int) < n := by omega
          obtain ⟨b, o, rfl, hc⟩ := HI.out.some (by intro e; have := HL.out; rw [e] at this; simp at this; omega)
          have hkl : k < l.length := by rw [HL.out]; exact hlt
          have ha := (hc k hkl).below K.out (hc k hkl).lt
          have HT1 := struck_take hkl
          have HT2 := longest_take hkl
          have hxk : x ≤ 300 := by have := struck_le (l.take k); rw [List.length_take, ← HX.out] at this; omega
          have hsz : (l.getD k none0).1.size ≤ 12 := by
            have := (Bm.chk_pos (Bm.leafE_zero.1 (HE.out _ (getD_mem hkl))).1).2; rwa [len_eq] at this
          have hyk : y ≤ 12 := by
            have := longest_le (l := l.take k) (fun x hx => HE.out x (List.mem_of_mem_take hx)); rw [← HY.out] at this; exact this
          rw [← HX.out] at HT1
          rw [← HY.out] at HT2
          obtain ⟨f, hf⟩ : ∃ f, f = l.getD k none0 := ⟨_, rfl⟩
          rw [← hf] at ha HT1 HT2 hsz
          obtain ⟨sx, nx, bx⟩ := f
          obtain ⟨a1, a2, a3⟩ := ha
          clear hc hf
          simp only at a1 a2 a3 HT1 HT2 hsz
          have HS1 : Hid (struck (l.take (k + 1)) = if bx = true then x + 1 else x) := HT1
          have HS2 : Hid (longest (l.take (k + 1)) = max y sx.size) := HT2
          clear HT1 HT2
          by_cases hgt : y < sx.size
          · have HY2 : Hid (sx.size = longest (l.take (k + 1))) := by unfold Hid; rw [HS2.out]; omega
            have hgz : (y : Int) < (sx.size : Int) := by omega
            cases bx
            · have HX2 : Hid (x = struck (l.take (k + 1))) := by unfold Hid; rw [HS1.out]; rfl
              clear HS1 HS2
              go_wp2
              go_round
              case rel => exact ⟨k + 1, x, sx.size, by omega, by go_num, rfl, rfl, HX2, HY2⟩
              case measure => simp [intOf]; omega
            · have HX2 : Hid (x + 1 = struck (l.take (k + 1))) := by unfold Hid; rw [HS1.out]; rfl
              clear HS1 HS2
              go_wp2
              go_round
              case rel => exact ⟨k + 1, x + 1, sx.size, by omega, by go_num, by go_num, rfl, HX2, HY2⟩
              case measure => simp [intOf]; omega
          · have HY2 : Hid (y = longest (l.take (k + 1))) := by unfold Hid; rw [HS2.out]; omega
            have hgz : ¬ (y : Int) < (sx.size : Int) := by omega
            cases bx
            · have HX2 : Hid (x = struck (l.take (k + 1))) := by unfold Hid; rw [HS1.out]; rfl
              clear HS1 HS2
              go_wp2
              go_round
              case rel => exact ⟨k + 1, x, y, by omega, by go_num, rfl, rfl, HX2, HY2⟩
              case measure => simp [intOf]; omega
            · have HX2 : Hid (x + 1 = struck (l.take (k + 1))) := by unfold Hid; rw [HS1.out]; rfl
              clear HS1 HS2
              go_wp2
              go_round
              case rel => exact ⟨k + 1, x + 1, y, by omega, by go_num, by go_num, rfl, HX2, HY2⟩
              case measure => simp [intOf]; omega
        · obtain rfl : n = k := by omega
          obtain rfl : x = sl := by
            rw [HSL.out, HX.out, List.take_of_length_le (by rw [HL.out]; exact Nat.le_refl _)]
          obtain rfl : y = ll := by
            rw [HLL.out, HY.out, List.take_of_length_le (by rw [HL.out]; exact Nat.le_refl _)]
          clear HX HY HSL HLL
          go_wp2_with fail
          refine (HCW.out wr (HI.out.below K.out)).mono ?_
          rintro e w5 ⟨v5, rfl, HO5, hb5⟩
          have K5 : Hid (Below w.heap.size w w5) := bel K.out hb5.out
          have HWE5 : Hid (OwnI w1.heap.size w5 (.slice (some ⟨w1.heap.size, 0, none⟩) 8 8) (wrt r)) := own_below HWE.out hb5.out
          have HR5 : Hid (Own w2.heap.size w5 (.slice q3 m c3) r) := own_below HO.out hb5.out
          clear hb5 HWE HO
          obtain ⟨q5, c5, rfl, _⟩ := HO5.out.shape
          rw [hWn.out] at HO5 ⊢
          go_wp2_with fail
          refine (same_nil 0 w5).mono ?_
          rintro e w6 ⟨rfl, hw⟩
          have hw2 := hw.symm; subst hw2; clear hw
          rw [beq_self_eq_true]
          go_wp2_with fail
          refine (ints_any q5 (some ⟨w1.heap.size, 0, none⟩) 8 8 c5 8 (wrt r) (wrt r) w5 hWn.out hWn.out (by omega) (own_ints HO5.out hWn.out) (own_ints HWE5.out hWn.out)).mono ?_
          rintro e w6 ⟨rfl, hb6⟩
          have K6 : Hid (Below w.heap.size w w6) := bel K5.out hb6
          have HR6 : Hid (Own w2.heap.size w6 (.slice q3 m c3) r) := own_below HR5.out hb6
          clear hb6 HO5 HWE5 HR5 K5
          rw [beq_self_eq_true]
          go_wp2_with fail
          refine (HCS.out w6 (HI.out.below K6.out)).mono ?_
          rintro e w7 ⟨rfl, hb7⟩
          have K7 : Hid (Below w.heap.size w w7) := bel K6.out hb7.out
          have HR7 : Hid (Own w2.heap.size w7 (.slice q3 m c3) r) := own_below HR6.out hb7.out
          clear hb7 HR6 K6
          go_wp2_with fail
          refine (same_nil 0 w7).mono ?_
          rintro e w8 ⟨rfl, hw⟩
          have hw2 := hw.symm; subst hw2; clear hw
          rw [beq_self_eq_true]
          go_wp2_with fail
          refine (HCR.out w7 (HI.out.below K7.out)).mono ?_
          rintro e w8 ⟨v8, rfl, HO8, hb8⟩
          have K8 : Hid (Below w.heap.size w w8) := bel K7.out hb8.out
          have HR8 : Hid (Own w2.heap.size w8 (.slice q3 m c3) r) := own_below HR7.out hb8.out
          clear hb8 HR7 K7
          obtain ⟨q8, c8, rfl, hq8⟩ := HO8.out.shape
          have HQ8 : Hid (0 < r.length → ∃ g, q8 = some ⟨g, 0, none⟩ ∧ w7.heap.size ≤ g) := hq8
          rw [HM.out] at HO8 HQ8 ⊢
          clear hq8
          go_wp2_with fail
          refine (same_nil 0 w8).mono ?_
          rintro e w9 ⟨rfl, hw⟩
          have hw2 := hw.symm; subst hw2; clear hw
          rw [beq_self_eq_true]
          go_wp2_with fail
          refine (HCL.out w8 (HI.out.below K8.out)).mono ?_
          rintro e w9 ⟨rfl, hb9⟩
          have K9 : Hid (Below w.heap.size w w9) := bel K8.out hb9.out
          have HR9 : Hid (Own w2.heap.size w9 (.slice q3 m c3) r) := own_below HR8.out hb9.out
          have HP9 : Hid (Own w7.heap.size w9 (.slice q8 m c8) r) := own_below HO8.out hb9.out
          clear hb9 HR8 K8 HO8
          go_wp2_with fail
          refine (same_nil 0 w9).mono ?_
          rintro e w10 ⟨rfl, hw⟩
          have hw2 := hw.symm; subst hw2; clear hw
          rw [beq_self_eq_true]
          go_wp2_with fail
          go_loopw [20] (fun i wr => ∃ (k : Nat), k ≤ m ∧ i = .int .i64 k ∧ Hid (Below w9.heap.size w9 wr)) (fun i _ => m - (intOf i).toNat)
          case atStart => exact ⟨0, by omega, rfl, Below.refl _ _⟩
          case round =>
            obtain ⟨k, hk, rfl, HB⟩ := hrel
            by_cases hlt : k < m
            · have hltz : (k : Int) < m := by omega
              obtain ⟨g, rfl, _⟩ := HQ.out (by omega)
              obtain ⟨g8, rfl, _⟩ := HQ8.out (by omega)
              obtain ⟨a1, a2⟩ := HR9.out.cells HM.out hlt
              obtain ⟨b1, b2⟩ := HP9.out.cells HM.out hlt
              have A1 := (HB.out.cell (World.block_lt_of_cell? _ _ a1)).trans a1
              have A2 := (HB.out.cell (World.block_lt_of_cell? _ _ a2)).trans a2
              have B1 := (HB.out.cell (World.block_lt_of_cell? _ _ b1)).trans b1
              have B2 := (HB.out.cell (World.block_lt_of_cell? _ _ b2)).trans b2
              obtain ⟨f, hf⟩ : ∃ f, f = r.getD k zp := ⟨_, rfl⟩
              rw [← hf] at A1 A2 B1 B2
              obtain ⟨fa, fm⟩ := f
              simp only at A1 A2 B1 B2
              clear a1 a2 b1 b2 hf
              go_wp2_with fail
              go_quiet (fail)
              generalize hwq : World.drewN _ _ = wq
              have HBQ : Hid (Below w9.heap.size w9 wq) := by unfold Hid; rw [← hwq]; exact bel_drew HB.out _
              clear hwq
              go_wp2_with fail
              go_roundw
              case rel => exact ⟨k + 1, by omega, by go_num, HBQ⟩
              case measure => simp [intOf]; omega
            · obtain rfl : m = k := by omega
              have KN : Hid (Below w.heap.size w wr) := bel K9.out HB.out
              go_wp2
              go_ret
              exact ⟨rfl, KN.out⟩

theorem walk (v : Value) (l : List Leaf) (w : World) (h : BookAt w v l) (hs : ∀ x ∈ l, x.1.size ≤ maxLen) (hg : ET w) :
    Calls Tryd.prog 3 #[v] w fun e w' => e = .returned (.bool true) ∧ Below w.heap.size w w' := by
  obtain ⟨p, c, rfl, hk, hc1, hc2, _⟩ := h
  by_cases h0 : bookE l = 0
  · exact good p l.length c l w rfl hk hs (by omega) h0 hg
  · exact bad p l.length c l w rfl hk hs (by omega) h0 hg

end Sq6
end Go.Proofs.YtiiiineipajhmaaDoor
