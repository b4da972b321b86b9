/- Package stat: Runs and Written, at every book. -/
import Derived.Test.YtiiiineipajhmaaSq2
namespace Go.Proofs.Ytiiiineipajhmaa
namespace Sq3
set_option linter.unusedVariables false
open Go.ChangeShapes Go.WideShapes Go.ChangeAt Go.RowKit Ka Kb Sq1 Sq2
open Bm (Leaf none0 bookE leafE isS text bookE_zero getD_mem)
open La (bel bel_drew errV_zero errV_ne own_ge own_grow own_below LeafsIn)
open Lb (isSeen_any)
open Lc (check_book new_cell bel_new)

def runsR (l : List Leaf) : List Pr := if bookE l = 0 then runs l else []
def wrtR (l : List Leaf) : List Int := if bookE l = 0 then wrt (runs l) else []
theorem text_take_le (l : List Leaf) (k : Nat) : (text (l.take k)).length ≤ l.length := by
  have h1 := Bm.text_len_le (l.take k); rw [List.length_take] at h1; omega

set_option maxRecDepth 100000 in
set_option maxHeartbeats 4000000 in
theorem runs_any (p : Option Addr) (n c : Nat) (l : List Leaf) (w : World) (hl : l.length = n) (h : LeafsIn w p l) (hs : ∀ x ∈ l, x.1.size ≤ maxLen) (hn : n ≤ maxLen) :
    Calls Try.prog 9 #[.slice p n c] w fun e w' => ∃ v, e = .returned (.tuple #[v, errV (bookE l)]) ∧ Hid (Own w.heap.size w' v (runsR l)) ∧ Hid (Below w.heap.size w w') := by
  have C := check_book p n c l w hl h hs hn
  unfold maxLen at hn
  by_cases h0 : bookE l = 0
  · have HR : Hid (runsR l = runs l) := by unfold Hid runsR; rw [if_pos h0]
    rw [h0, errV_zero] at C ⊢
    obtain ⟨hb1, hb2, _⟩ := bookE_zero.1 h0
    have hn3 : n ≤ 300 := by omega
    have HE : Hid (∀ x ∈ l, leafE x = 0) := hb2
    have HL : Hid (l.length = n) := hl
    have HI : Hid (LeafsIn w p l) := h
    have HS : Hid (∀ x ∈ l, x.1.size ≤ maxLen) := hs
    clear hl h hs h0 hb1 hb2
    go_enter Try.func9, Try.ntmps9
    go_wp2_with fail
    refine C.mono ?_
    rintro e w2 ⟨rfl, hb2⟩
    have HB2 : Hid (Below w.heap.size w w2) := hb2
    clear hb2 C
    go_wp2_with fail
    go_loopw [5, 7, 8, 9, 17] (fun v _ _ _ i wr => ∃ (k : Nat), k ≤ n ∧ i = .int .i64 k ∧ Hid (Own w.heap.size wr v (runs (l.take k))) ∧ Hid (Below w.heap.size w wr)) (fun _ _ _ _ i _ => n - (intOf i).toNat)
    case atStart => exact ⟨0, by omega, rfl, Own.nil _ _, HB2⟩
    case round =>
      clear HB2
      obtain ⟨k, hk, rfl, HW, HB⟩ := hrel
      by_cases hlt : k < n
      · have hltz : (k : Int) < n := by omega
        obtain ⟨b, o, rfl, hc⟩ := HI.out.some (by intro e; have := HL.out; rw [e] at this; simp at this; omega)
        have hkl : k < l.length := by rw [HL.out]; exact hlt
        have ha := (hc k hkl).below HB.out (hc k hkl).lt
        have HT : Hid (runs (l.take (k + 1)) = stepR (runs (l.take k)) (l.getD k none0)) := runs_take hkl
        have HRN := runs_ok_take HE.out k
        have htl := text_take_le l k
        rw [HL.out] at htl
        have hcx : Pm.chk (l.getD k none0).1.toList = 0 := (Bm.leafE_zero.1 (HE.out _ (getD_mem hkl))).1
        have hss := HS.out _ (getD_mem hkl)
        obtain ⟨x, hx⟩ : ∃ x, x = l.getD k none0 := ⟨_, rfl⟩
        rw [← hx] at ha HT hcx hss
        obtain ⟨sx, nx, bx⟩ := x
        obtain ⟨a1, a2, a3⟩ := ha
        clear hc hx
        simp only at a1 a2 a3 hcx hss
        have HC : Hid (Pm.chk sx.toList = 0) := hcx
        have C := isSeen_any sx nx bx (wr.alloc (.cells #[.string sx, .int .i64 nx, .bool bx] 29))
        have HLN : Hid ((runs (l.take k)).length ≤ 1048576) := by have := HRN.len; unfold Hid; omega
        have HMN : Hid (∀ j, 0 ≤ ((runs (l.take k)).getD j zp).2 ∧ ((runs (l.take k)).getD j zp).2 ≤ 1048576) := by
          intro j
          have h1 := HRN.le j
          refine ⟨?_, by omega⟩
          by_cases hj : j < (runs (l.take k)).length
          · have := HRN.many j hj; omega
          · rw [List.getD_eq_getElem?_getD, List.getElem?_eq_none (by omega)]; exact Int.le_refl _
        clear HRN htl hcx
        cases hse : isS (sx, nx, bx)
        · rw [hse] at C
          have HW2 : Hid (Own w.heap.size wr u5 (runs (l.take (k + 1)))) := by
            unfold Hid; rw [HT.out]; unfold stepR; rw [hse, if_neg (by decide)]; exact HW.out
          clear hse
          go_wp2_with fail
          refine C.mono ?_
          rintro e w2 ⟨rfl, hb2⟩
          have HB2 : Hid (Below w.heap.size w w2) := bel_new HB.out hb2
          have HW3 : Hid (Own w.heap.size w2 u5 (runs (l.take (k + 1)))) := own_below (World.ownsRow.alloc HW2.out _) hb2
          clear hb2 C a1 a2 a3
          go_wp2_with fail
          go_roundw
          case rel => exact ⟨k + 1, by omega, by go_num, HW3, HB2⟩
          case measure => simp [intOf]; omega
        · rw [hse] at C
          have HT2 : Hid (runs (l.take (k + 1)) = addR (runs (l.take k)) (Pm.whoOf sx.toList)) := by
            unfold Hid; rw [HT.out]; unfold stepR; rw [hse, if_pos rfl]; rfl
          clear hse
          go_wp2_with fail
          refine C.mono ?_
          rintro e w2 ⟨rfl, hb2⟩
          have HB2 : Hid (Below w.heap.size w w2) := bel_new HB.out hb2
          have d1 := (new_cell (x := (sx, nx, bx)) hb2).1
          simp only at d1
          have HW3 : Hid (Own w.heap.size w2 u5 (runs (l.take k))) := own_below (World.ownsRow.alloc HW.out _) hb2
          clear hb2 C a1 a2 a3
          go_wp2_with fail
          refine (author_any sx w2 hss HC.out).mono ?_
          rintro e w3 ⟨rfl, hw⟩
          have hw2 := hw.symm; subst hw2; clear hw
          go_wp2_with fail
          refine (lengthened_any w.heap.size u5 (runs (l.take k)) (Pm.whoOf sx.toList) w2 HW3.out HB2.out.size HLN.out HMN.out).mono ?_
          rintro e w4 ⟨v4, rfl, ho4, hb4⟩
          have HW4 : Hid (Own w.heap.size w4 v4 (runs (l.take (k + 1)))) := by unfold Hid; rw [HT2.out]; exact ho4
          have HB4 : Hid (Below w.heap.size w w4) := HB2.out.trans hb4
          clear ho4 hb4
          go_wp2_with fail
          go_roundw
          case rel => exact ⟨k + 1, by omega, by go_num, HW4, HB4⟩
          case measure => simp [intOf]; omega
      · obtain rfl : k = n := by omega
        have HW2 : Hid (Own w.heap.size wr u5 (runsR l)) := by
          have := HW.out
          unfold Hid; rw [HR.out]
          rwa [List.take_of_length_le (by rw [HL.out]; exact Nat.le_refl _)] at this
        go_wp2_with fail
        go_ret2
        exact ⟨_, rfl, HW2, HB⟩
  · obtain ⟨q, hq⟩ : ∃ q, q = bookE l := ⟨_, rfl⟩
    have HR : Hid (runsR l = []) := by unfold Hid runsR; rw [if_neg h0]
    rw [errV_ne h0, ← hq] at C ⊢
    clear hl h hs h0 hq
    go_enter Try.func9, Try.ntmps9
    go_wp2_with fail
    refine C.mono ?_
    rintro e w2 ⟨rfl, hb2⟩
    have HB2 : Hid (Below w.heap.size w w2) := hb2
    clear hb2 C
    go_wp2_with fail
    go_ret2
    exact ⟨_, rfl, by rw [HR.out]; exact Own.nil _ _, HB2⟩

/- a row of ints of the call's own -/
def vi (xs : List Int) : List Value := xs.map (Value.int .i64)
def OwnI (B : Nat) (w : World) (v : Value) (xs : List Int) : Prop := w.ownsRow B 3 1 v xs.length (vi xs)
theorem infoInt : (Try.prog.info? 3).map (fun i => (i.zero, i.size, i.bytes)) = some (some (.int .i64 0), 1, 8) := by kernel_rfl
theorem made8 : (madeCells (Value.int .i64 0).cells (8 * 1)).toList = vi [0, 0, 0, 0, 0, 0, 0, 0] := by kernel_rfl
theorem vi_at {xs : List Int} {j : Nat} (hj : j < xs.length) : (vi xs)[j]? = some (.int .i64 (xs.getD j 0)) := by
  unfold vi; rw [List.getElem?_map, List.getElem?_eq_getElem hj, List.getD_eq_getElem?_getD, List.getElem?_eq_getElem hj]; rfl
theorem OwnI.cell {B : Nat} {w : World} {g c n : Nat} {xs : List Int} (h : OwnI B w (.slice (some ⟨g, 0, none⟩) n c) xs) (hn : xs.length = n) {j : Nat} (hj : j < n) :
    w.cell? ⟨g, j, none⟩ = some (.int .i64 (xs.getD j 0)) ∧ w.frozen? ⟨g, j, none⟩ = false := by
  unfold OwnI at h
  rw [hn] at h
  exact ⟨by rw [h.cellAt j (by omega)]; exact vi_at (by omega), h.frozenAt j⟩
theorem OwnI.put {B : Nat} {w : World} {g c n : Nat} {xs : List Int} (h : OwnI B w (.slice (some ⟨g, 0, none⟩) n c) xs) (hn : xs.length = n) (j : Nat) (y : Int) :
    OwnI B (w.setCell ⟨g, j, none⟩ (.int .i64 y)) (.slice (some ⟨g, 0, none⟩) n c) (xs.set j y) := by
  unfold OwnI at h ⊢
  rw [hn] at h
  rw [List.length_set, hn]
  have h2 := (h.stored j (.int .i64 y)).1
  unfold vi at h2 ⊢
  rw [List.map_set]; exact h2
theorem OwnI.nil (B : Nat) (w : World) : OwnI B w (.slice none 0 0) [] := World.ownsRow_nil _ _ _ _
theorem OwnI.shape {B : Nat} {w : World} {v : Value} {xs : List Int} (h : OwnI B w v xs) : ∃ p c, v = .slice p xs.length c ∧ (0 < xs.length → ∃ g, p = some ⟨g, 0, none⟩ ∧ B ≤ g) := by
  rcases h.2 with ⟨rfl, h0⟩ | ⟨g, cap, cur, rfl, hg, _⟩
  · exact ⟨none, 0, by rw [h0], fun h => by omega⟩
  · exact ⟨_, _, rfl, fun _ => ⟨g, rfl, hg⟩⟩
theorem own_mono {w : World} {B C : Nat} {t : TypeId} {z n : Nat} {v : Value} {xs : List Value} (h : w.ownsRow B t z v n xs) (hC : C ≤ B) : w.ownsRow C t z v n xs := by
  refine ⟨h.1, ?_⟩
  rcases h.2 with h0 | ⟨g, cap, cur, h1, h2, h3⟩
  · exact Or.inl h0
  · exact Or.inr ⟨g, cap, cur, h1, Nat.le_trans hC h2, h3⟩
theorem box2 (w : World) (a b : Int) (t : TypeId) : (w.alloc (.cells #[.int .i64 a, .int .i64 b] t)).cell? ⟨w.heap.size, 0, none⟩ = some (.int .i64 a) ∧ (w.alloc (.cells #[.int .i64 a, .int .i64 b] t)).cell? ⟨w.heap.size, 1, none⟩ = some (.int .i64 b) := by
  have h2 : (w.alloc (.cells #[.int .i64 a, .int .i64 b] t)).heap[w.heap.size]? = some (.cells #[.int .i64 a, .int .i64 b] t) := heap_alloc_new w _
  constructor <;> (simp only [World.cell?, h2]; rfl)

set_option maxRecDepth 100000 in
set_option maxHeartbeats 4000000 in
theorem written_any (p : Option Addr) (n c : Nat) (l : List Leaf) (w : World) (hl : l.length = n) (h : LeafsIn w p l) (hs : ∀ x ∈ l, x.1.size ≤ maxLen) (hn : n ≤ maxLen) :
    Calls Try.prog 5 #[.slice p n c] w fun e w' => ∃ v, e = .returned (.tuple #[v, errV (bookE l)]) ∧ Hid (OwnI w.heap.size w' v (wrtR l)) ∧ Hid (Below w.heap.size w w') := by
  have C := runs_any p n c l w hl h hs hn
  by_cases h0 : bookE l = 0
  · obtain ⟨hb1, hb2, _⟩ := bookE_zero.1 h0
    have HRN : Hid (Rn (runs l) (text l).length) := runs_ok hb2
    have htl : (text l).length ≤ 300 := Nat.le_trans (Bm.text_len_le l) hb1
    have HR : Hid (wrtR l = wrt (runs l)) := by unfold Hid wrtR; rw [if_pos h0]
    rw [show runsR l = runs l by unfold runsR; rw [if_pos h0]] at C
    rw [h0, errV_zero] at C ⊢
    obtain ⟨i0, hi, hz0, hz1, hz2⟩ := info_parts infoInt
    obtain ⟨r, hr⟩ : ∃ r, r = runs l := ⟨_, rfl⟩
    rw [← hr] at C HRN HR
    obtain ⟨tn, htn⟩ : ∃ tn, tn = (text l).length := ⟨_, rfl⟩
    rw [← htn] at HRN htl
    clear hl h hs h0 hb1 hb2 hn hr htn
    go_enter Try.func5, Try.ntmps5
    go_wp2_with fail
    refine C.mono ?_
    rintro e w2 ⟨v2, rfl, HO2, HB2⟩
    clear C
    obtain ⟨q2, c2, rfl, hq2⟩ := HO2.out.shape
    obtain ⟨m, hm⟩ : ∃ m, m = r.length := ⟨_, rfl⟩
    have HM : Hid (r.length = m) := hm.symm
    rw [← hm] at hq2 HO2 ⊢
    have hm3 : m ≤ 300 := by have := HRN.out.len; omega
    have HQ : Hid (0 < m → ∃ g, q2 = some ⟨g, 0, none⟩ ∧ w.heap.size ≤ g) := hq2
    clear hm hq2
    go_wp2_with (at_make; refine wpList_make_full _ rfl (.const (.int .i64 8)) (.const (.int .i64 8)) 23 rfl w2.heap.size 3 i0 (.int .i64 0) 1 Try.underlying23 hi hz0 hz1 .i64 .i64 8 8 8 rfl rfl rfl rfl (by rw [hz2]; omega) (by unfold maxLen; omega) (Nat.le_refl _) ?_; intro w3 hown hgrow; have HI : Hid (OwnI w2.heap.size w3 (.slice (some ⟨w2.heap.size, 0, none⟩) 8 8) (wrt (r.take 0))) := (by have h9 := hown; rw [made8] at h9; exact h9); have HB3 : Hid (Below w2.heap.size w2 w3) := ⟨hgrow.os, hgrow.tape, hgrow.output, hgrow.size, fun k hk => hgrow.block k hk (by intro e; cases e)⟩; clear hown hgrow)
    go_loopw [8, 20] (fun _ i wr => ∃ (k : Nat), k ≤ m ∧ i = .int .i64 k ∧ Hid (OwnI w2.heap.size wr (.slice (some ⟨w2.heap.size, 0, none⟩) 8 8) (wrt (r.take k))) ∧ Hid (Below w2.heap.size w2 wr)) (fun _ i _ => m - (intOf i).toNat)
    case atStart => exact ⟨0, by omega, rfl, HI, HB3⟩
    case round =>
      clear HI HB3
      obtain ⟨k, hk, rfl, HI, HB⟩ := hrel
      by_cases hlt : k < m
      · have hltz : (k : Int) < m := by omega
        obtain ⟨g, rfl, hg⟩ := HQ.out (by omega)
        have hc2 := HO2.out.cells HM.out hlt
        have hkr : k < r.length := by rw [HM.out]; exact hlt
        have HT : Hid (wrt (r.take (k + 1)) = addW (wrt (r.take k)) (r.getD k zp)) := wrt_take hkr
        have hwho := HRN.out.who k hkr
        have hman := HRN.out.many k hkr
        have hle := HRN.out.le k
        obtain ⟨M, hWn, hM0, hM1⟩ := HRN.out.wrt_take k
        have e1 := HB.out.cell (World.block_lt_of_cell? _ _ hc2.1)
        have e2 := HB.out.cell (World.block_lt_of_cell? _ _ hc2.2)
        have a1 := e1.trans hc2.1
        have a2 := e2.trans hc2.2
        obtain ⟨y, hy⟩ : ∃ y, y = r.getD k zp := ⟨_, rfl⟩
        rw [← hy] at a1 a2 HT hwho hman hle
        obtain ⟨ya, ym⟩ := y
        simp only at a1 a2 hwho hman hle
        obtain ⟨j, hj⟩ : ∃ j, j = at8 (ya, ym) := ⟨_, rfl⟩
        have hj8 : j < 8 := by rw [hj]; unfold at8; simp only; omega
        have hjw : IntKind.i64.wrap (ya - 1) = (j : Int) := by rw [wrap_in (by omega) (by omega), hj]; unfold at8; simp only; omega
        have HV : Hid (OwnI w2.heap.size (wr.alloc (.cells #[.int .i64 ya, .int .i64 ym] 46)) (.slice (some ⟨w2.heap.size, 0, none⟩) 8 8) (wrt (r.take k))) := World.ownsRow.alloc HI.out _
        obtain ⟨b1, b2⟩ := box2 wr ya ym 46
        obtain ⟨d1, d2⟩ := HV.out.cell hWn.len hj8
        obtain ⟨x, hx⟩ : ∃ x, x = (wrt (r.take k)).getD j 0 := ⟨_, rfl⟩
        have hxb := hWn.le j
        rw [← hx] at d1 hxb
        obtain ⟨z, hzz⟩ : ∃ z, z = x + ym := ⟨_, rfl⟩
        have hsw : IntKind.i64.wrap (x + ym) = z := by rw [wrap_in (by omega) (by omega), hzz]
        have HN : Hid (OwnI w2.heap.size ((wr.alloc (.cells #[.int .i64 ya, .int .i64 ym] 46)).setCell ⟨w2.heap.size, j, none⟩ (.int .i64 z)) (.slice (some ⟨w2.heap.size, 0, none⟩) 8 8) (wrt (r.take (k + 1)))) := by
          unfold Hid; rw [HT.out]; unfold addW; rw [← hj, ← hx]; show OwnI _ _ _ ((wrt (r.take k)).set j (x + ym)); rw [← hzz]; exact HV.out.put hWn.len j z
        have HBN : Hid (Below w2.heap.size w2 ((wr.alloc (.cells #[.int .i64 ya, .int .i64 ym] 46)).setCell ⟨w2.heap.size, j, none⟩ (.int .i64 z))) := (HB.out.alloc HB.out.size _).setCell (Nat.le_refl _) _
        have hz1' : (0 : Int) ≤ (j : Int) := by omega
        have hz2' : (j : Int) < 8 := by omega
        clear hc2 e1 e2 hwho hman hle hWn hM0 hM1 hy hj hx hxb hzz hkr HI
        go_wp2
        go_region
        generalize hwg : World.setCell _ _ _ = wg at HN HBN ⊢
        clear hwg
        go_wp2
        go_roundw
        case rel => exact ⟨k + 1, by omega, by go_num, HN.out, bel_dr HBN.out⟩
        case measure => simp [intOf]; omega
      · obtain rfl : k = m := by omega
        have HN : Hid (OwnI w.heap.size wr (.slice (some ⟨w2.heap.size, 0, none⟩) 8 8) (wrtR l)) := by
          have := HI.out
          unfold Hid; rw [HR.out]
          rw [List.take_of_length_le (by rw [HM.out]; exact Nat.le_refl _)] at this
          exact own_mono this HB2.out.size
        have HBN : Hid (Below w.heap.size w wr) := bel HB2.out HB.out
        go_wp2_with fail
        go_ret2
        exact ⟨_, rfl, HN, HBN⟩
  · obtain ⟨q, hq⟩ : ∃ q, q = bookE l := ⟨_, rfl⟩
    have HR : Hid (wrtR l = []) := by unfold Hid wrtR; rw [if_neg h0]
    rw [errV_ne h0, ← hq] at C ⊢
    clear hl h hs h0 hq
    go_enter Try.func5, Try.ntmps5
    go_wp2_with fail
    refine C.mono ?_
    rintro e w2 ⟨v2, rfl, _, HB2⟩
    clear C
    go_wp2_with fail
    go_ret2
    exact ⟨_, rfl, by rw [HR.out]; exact OwnI.nil _ _, HB2⟩

end Sq3
end Go.Proofs.Ytiiiineipajhmaa
