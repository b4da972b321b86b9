/- The reference's buffer in memory; what its next answers. -/
import Derived.Test.YtnniggjeadlbgaaGreatDoorJa
import Derived.Test.YtnniggjeadlbgaaGreatDoorIq
import Derived.Test.YtnniggjeadlbgaaGreatDoorXa
namespace Go.Proofs.YtnniggjeadlbgaaGreatDoor
namespace Jm
set_option linter.unusedVariables false
set_option linter.unusedSimpArgs false
open Go.ChangeShapes Go.WideShapes Go.ChangeAt Go.RowKit Cm Ka Kb Na Om Oa Oz Oc Og Oi Hm Ia Ic Idc Ie If Ig Ii Ij Ik Il Im Iq Xa Ja
open La (bel bel_drew errV_zero errV_ne own_ge own_grow own_below Lies)

/- where an op stands -/
theorem dotIn_ix {d : Dt} : ∀ {L : List Ox} {i : Nat}, i < L.length → (L.getD i oz).1 = d → (∀ j, j < i → (L.getD j oz).1 ≠ d) → dotIn L d = some (L.getD i oz) ∧ rid d L = L.take i ++ L.drop (i + 1)
  | [], i, h, _, _ => by simp at h
  | x :: L, 0, h, h1, _ => by
    have hx : x.1 = d := h1
    refine ⟨?_, ?_⟩
    · unfold dotIn; rw [List.find?_cons_of_pos (by simp [hx])]; rfl
    · unfold rid; rw [if_pos hx.symm]; rfl
  | x :: L, i + 1, h, h1, h2 => by
    have hx : x.1 ≠ d := h2 0 (by omega)
    have ih := dotIn_ix (L := L) (i := i) (by simpa using h) (by simpa using h1) (fun j hj => by have := h2 (j + 1) (by omega); simpa using this)
    refine ⟨?_, ?_⟩
    · unfold dotIn
      rw [List.find?_cons_of_neg (by simp [hx])]
      have := ih.1
      unfold dotIn at this
      rw [this]
      simp
    · unfold rid
      rw [if_neg (fun e => hx e.symm), ih.2]
      simp
theorem dotIn_all {d : Dt} {L : List Ox} (h : ∀ j, j < L.length → (L.getD j oz).1 ≠ d) : dotIn L d = none := by
  unfold dotIn
  refine List.find?_eq_none.2 fun x hx => ?_
  obtain ⟨j, hj, e⟩ := List.mem_iff_getElem.1 hx
  have := h j hj
  rw [List.getD_eq_getElem?_getD, List.getElem?_eq_getElem hj] at this
  simp only [Option.getD_some, e] at this
  simpa using this
theorem next_skip {S : Dq} {L : List Ox} {k : Nat} (hk : k < 8) (h : dotIn L ((k : Int) + 1, kn S ((k : Int) + 1) + 1) = none) : nextAt S L (8 - k) k = nextAt S L (8 - (k + 1)) (k + 1) := by
  rw [show 8 - k = (8 - (k + 1)) + 1 by omega]
  conv => lhs; unfold nextAt
  rw [h]
theorem next_found {S : Dq} {L : List Ox} {k : Nat} {o : Ox} (hk : k < 8) (h : dotIn L ((k : Int) + 1, kn S ((k : Int) + 1) + 1) = some o) : nextAt S L (8 - k) k = some o := by
  rw [show 8 - k = (8 - (k + 1)) + 1 by omega]
  unfold nextAt
  rw [h]

structure RB (B : Nat) (w : World) (Q E : Nat) (vL : Value) (S : Dq) (M : List (Ox × Value)) (F : Nat → Prop) : Prop where
  blk : w.heap[Q]? = some (.cells #[.pointer (some ⟨E, 0, none⟩), vL] 82)
  doc : RefAt B w E S F
  row : RowL B w vL M
  dts : ∀ y ∈ M, DtsAt w y.2 y.1.2.2.2.2 ∧ In (fun g => g < B) y.2
  size : ∀ y ∈ M, y.1.2.2.1.size ≤ maxLen
  wt : Wt (M.map (·.1))
  offQ : ¬ F Q ∧ B ≤ Q
  offL : ∀ g, vL.ownBlock = some g → ¬ F g
theorem RB.base {B : Nat} {w : World} {Q E : Nat} {vL : Value} {S : Dq} {M : List (Ox × Value)} {F : Nat → Prop} (h : RB B w Q E vL S M F) : B ≤ w.heap.size := by
  have := (Array.getElem?_eq_some_iff.1 h.blk).1
  have := h.offQ.2
  omega
theorem RB.ne {B : Nat} {w : World} {Q E : Nat} {vL : Value} {S : Dq} {M : List (Ox × Value)} {F : Nat → Prop} (h : RB B w Q E vL S M F) : ∀ g, vL.ownBlock = some g → g ≠ Q := fun g hg => by
  obtain ⟨_, cur, hc⟩ := own_lt h.row g hg
  exact blk_ne hc h.blk (by decide)
theorem RB.all_lt {B : Nat} {w : World} {Q E : Nat} {vL : Value} {S : Dq} {M : List (Ox × Value)} {F : Nat → Prop} (h : RB B w Q E vL S M F) : ∀ g, (F g ∨ g = Q ∨ vL.ownBlock = some g) → B ≤ g ∧ g < w.heap.size := by
  rintro g (e | e | e)
  · exact h.doc.lt g e
  · rw [e]; exact ⟨h.offQ.2, (Array.getElem?_eq_some_iff.1 h.blk).1⟩
  · exact ⟨(h.row.lt g e).1, (own_lt h.row g e).1⟩
theorem RB.stay {B : Nat} {w w' : World} {Q E : Nat} {vL : Value} {S : Dq} {M : List (Ox × Value)} {F H : Nat → Prop} (h : RB B w Q E vL S M F) (hc : Chg H w w') (hB : ∀ g, H g → B ≤ g) (hd : ∀ g, (F g ∨ g = Q ∨ vL.ownBlock = some g) → ¬ H g) : RB B w' Q E vL S M F := by
  have hbase := h.base
  refine ⟨by rw [hc.block Q (Array.getElem?_eq_some_iff.1 h.blk).1 (hd Q (Or.inr (Or.inl rfl)))]; exact h.blk, h.doc.chg hc hB (fun g e => hd g (Or.inl e)), own_stay h.row (fun g e => hc.block g (own_lt h.row g e).1 (hd g (Or.inr (Or.inr e)))), fun y hy => ⟨dots_stay (h.dts y hy).1 (h.dts y hy).2 (fun g e => hc.block g (Nat.lt_of_lt_of_le e hbase) (fun e9 => by have := hB g e9; omega)), (h.dts y hy).2⟩, h.size, h.wt, h.offQ, h.offL⟩
theorem RB.below {B : Nat} {w w' : World} {Q E : Nat} {vL : Value} {S : Dq} {M : List (Ox × Value)} {F : Nat → Prop} (h : RB B w Q E vL S M F) (hb : Below w.heap.size w w') : RB B w' Q E vL S M F :=
  h.stay (Chg.ofBelow hb (fun _ => False)) (fun g e => e.elim) (fun g _ e => e.elim)
/- a buffer at block Q over the reference's doc at block E -/
def RBAt (B : Nat) (w : World) (Q E : Nat) (S : Dq) (L : List Ox) (H : Nat → Prop) : Prop := ∃ vL M F, RB B w Q E vL S M F ∧ M.map (·.1) = L ∧ ∀ g, H g ↔ (F g ∨ g = Q ∨ vL.ownBlock = some g)
theorem RBAt.lt {B : Nat} {w : World} {Q E : Nat} {S : Dq} {L : List Ox} {H : Nat → Prop} (h : RBAt B w Q E S L H) : ∀ g, H g → B ≤ g ∧ g < w.heap.size := by
  obtain ⟨vL, M, F, m, _, hH⟩ := h
  exact fun g hg => m.all_lt g ((hH g).1 hg)
theorem RBAt.chg {B : Nat} {w w' : World} {Q E : Nat} {S : Dq} {L : List Ox} {H K : Nat → Prop} (h : RBAt B w Q E S L H) (hc : Chg K w w') (hB : ∀ g, K g → B ≤ g) (hd : ∀ g, H g → ¬ K g) : RBAt B w' Q E S L H := by
  obtain ⟨vL, M, F, m, hM, hH⟩ := h
  exact ⟨vL, M, F, m.stay hc hB (fun g hg => hd g ((hH g).2 hg)), hM, hH⟩
theorem RBAt.below {B : Nat} {w w' : World} {Q E : Nat} {S : Dq} {L : List Ox} {H : Nat → Prop} (h : RBAt B w Q E S L H) (hb : Below w.heap.size w w') : RBAt B w' Q E S L H :=
  h.chg (Chg.ofBelow hb (fun _ => False)) (fun g e => e.elim) (fun g _ e => e.elim)
theorem RBAt.wt {B : Nat} {w : World} {Q E : Nat} {S : Dq} {L : List Ox} {H : Nat → Prop} (h : RBAt B w Q E S L H) : Wt L := by
  obtain ⟨vL, M, F, m, hM, hH⟩ := h
  rw [← hM]; exact m.wt
theorem RBAt.inv {B : Nat} {w : World} {Q E : Nat} {S : Dq} {L : List Ox} {H : Nat → Prop} (h : RBAt B w Q E S L H) : Inv S := by
  obtain ⟨vL, M, F, m, hM, hH⟩ := h
  exact m.doc.inv

theorem kn_cell {B : Nat} {w : World} {E : Nat} {S : Dq} {F : Nat → Prop} (h : RefAt B w E S F) : ∃ gk, w.cell? ⟨E, 2, none⟩ = some (.slice (some ⟨gk, 0, none⟩) 8 8) ∧ ∀ a : Int, 1 ≤ a → a ≤ 8 → w.cell? ⟨gk, a.toNat - 1, none⟩ = some (.int .i64 (kn S a)) := by
  obtain ⟨I, gk, vb, vm, vo, hm⟩ := h
  refine ⟨gk, blk_cell hm.blk (i := 2) rfl, fun a h1 h2 => ?_⟩
  obtain ⟨cur, k1, k2⟩ := hm.kn
  refine blk_cell k1 ?_
  have hkl : a.toNat - 1 < S.known.length := by rw [I.klen]; omega
  rw [← Array.getElem?_toList, k2, List.getElem?_map, List.getElem?_eq_getElem hkl]
  unfold kn
  rw [show (a - 1).toNat = a.toNat - 1 by omega, List.getD_eq_getElem?_getD, List.getElem?_eq_getElem hkl]; rfl
theorem kn_few {S : Dq} (I : Inv S) {a : Int} (h1 : 1 ≤ a) (h2 : a ≤ 8) : 0 ≤ kn S a ∧ kn S a ≤ 400 := by
  rw [I.kno _ h1 h2]
  have h3 := List.length_filter_le (fun o => decide (o.1.1 = a)) S.ops
  have h4 := I.few
  exact ⟨by omega, by omega⟩
/- the row's cells: an op's dot -/
theorem row_dot {B : Nat} {w : World} {g n c : Nat} {M : List (Ox × Value)} (h : RowL B w (.slice (some ⟨g, 0, none⟩) n c) M) {j : Nat} (hj : j < M.length) : w.cell? ⟨g, j * 6, none⟩ = some (.int .i64 ((M.map (·.1)).getD j oz).1.1) ∧ w.cell? ⟨g, j * 6 + 1, none⟩ = some (.int .i64 ((M.map (·.1)).getD j oz).1.2) := by
  have hy := List.getElem?_eq_getElem hj
  have h6 := h.six hy
  have h0 := h6 0 _ rfl
  rw [Nat.add_zero] at h0
  have e : (M.map (·.1)).getD j oz = M[j].1 := by rw [List.getD_eq_getElem?_getD, List.getElem?_map, hy]; rfl
  rw [e]
  exact ⟨h0, h6 1 _ rfl⟩

def RNext (S : Dq) (L : List Ox) (r : Int) : Prop := (nextO S L = none ∧ r = -1) ∨ ∃ i : Nat, r = i ∧ i < L.length ∧ nextO S L = some (L.getD i oz) ∧ rid (L.getD i oz).1 L = L.take i ++ L.drop (i + 1)

set_option maxRecDepth 100000 in
set_option maxHeartbeats 4000000 in
theorem rnext_any (B Q E : Nat) (vL : Value) (S : Dq) (M : List (Ox × Value)) (F : Nat → Prop) (w : World) (h : RB B w Q E vL S M F) :
    Calls Tryz.prog 82 #[.pointer (some ⟨Q, 0, none⟩)] w fun e w' => (∃ r, e = .returned (.int .i64 r) ∧ RNext S (M.map (·.1)) r) ∧ Below w.heap.size w w' := by
  obtain ⟨p, N, c, rfl, HNL⟩ := own_shape h.row
  have HM : Hid (RB B w Q E (.slice p N c) S M F) := h
  obtain ⟨L, hL⟩ : ∃ L, L = M.map (·.1) := ⟨_, rfl⟩
  have HL : Hid (L = M.map (·.1)) := hL
  have HLN : Hid (L.length = N) := by unfold Hid; rw [hL, List.length_map, HNL.out]
  have hN4 : N ≤ 400 := by have := h.wt.few; rw [List.length_map] at this; have := HNL.out; omega
  have HI : Hid (Inv S) := h.doc.inv
  rw [← hL]
  clear h hL
  go_enter Tryz.func82, Tryz.ntmps82
  go_wp2_with fail
  go_loopw [3] (fun va wr => ∃ (k : Nat) (a : Int), k ≤ 8 ∧ va = .int .i64 a ∧ 1 ≤ a ∧ a ≤ 9 ∧ Hid (a = (k : Int) + 1) ∧ Hid (nextAt S L (8 - k) k = nextO S L) ∧ Hid (Below w.heap.size w wr)) (fun va _ => 9 - (intOf va).toNat)
  case atStart => exact ⟨0, 1, by omega, rfl, by omega, by omega, rfl, rfl, Below.refl _ _⟩
  case round =>
    obtain ⟨k, a, hk, rfl, ha1, ha9, HA, HNX, HBk⟩ := hrel
    by_cases ha8 : a ≤ 8
    · have hk8 : k < 8 := by have := HA.out; omega
      go_wp2_with fail
      go_loopw [4] (fun vi wr => ∃ (i : Nat), i ≤ N ∧ vi = .int .i64 i ∧ Hid (∀ j, j < i → (L.getD j oz).1 ≠ (a, kn S a + 1)) ∧ Hid (Below w.heap.size w wr)) (fun vi _ => N - (intOf vi).toNat)
      case atStart => exact ⟨0, by omega, rfl, fun j hj => by omega, HBk⟩
      case round =>
        clear HBk
        obtain ⟨i, hi, rfl, HNO, HBk⟩ := hrel
        have HMk : Hid (RB B wr Q E (.slice p N c) S M F) := HM.out.below HBk.out
        have b1 := blk_cell HMk.out.blk (i := 1) (u := .slice p N c) rfl
        by_cases hlt : i < N
        · have hltz : (i : Int) < N := by omega
          obtain ⟨g, rfl⟩ : ∃ g, p = some ⟨g, 0, none⟩ := by
            rcases HMk.out.row.shape with ⟨e, e2⟩ | ⟨g9, c9, e, _⟩
            · injection e with _ e _; omega
            · injection e with e _ _; exact ⟨g9, e⟩
          have hiM : i < M.length := by rw [← HNL.out]; exact hlt
          obtain ⟨d0, d1⟩ := row_dot HMk.out.row hiM
          rw [← HL.out] at d0 d1
          obtain ⟨x, hx⟩ : ∃ x, x = L.getD i oz := ⟨_, rfl⟩
          rw [← hx] at d0 d1
          have HX : Hid (x = L.getD i oz) := hx
          obtain ⟨⟨xa, xb⟩, xr⟩ := x
          simp only at d0 d1
          have b0 := blk_cell HMk.out.blk (i := 0) (u := .pointer (some ⟨E, 0, none⟩)) rfl
          obtain ⟨gk, k0, k1⟩ := kn_cell HMk.out.doc
          have k2 := k1 a ha1 ha8
          obtain ⟨q, hq⟩ : ∃ q, q = kn S a := ⟨_, rfl⟩
          obtain ⟨f1, f2⟩ := kn_few HI.out ha1 ha8
          rw [← hq] at k2 f1 f2
          have HQ : Hid (q = kn S a) := hq
          have hk8a : a.toNat - 1 < 8 := by omega
          clear k1 hq hx hiM
          by_cases hxa : xa = a
          · have hxab : (xa == a) = true := by simpa using hxa
            by_cases hxb : xb = q + 1
            · have hxbb : (xb == q + 1) = true := by simpa using hxb
              have HF : Hid (RNext S L (i : Int)) := by
                have hh := dotIn_ix (L := L) (i := i) (d := (a, kn S a + 1)) (by rw [HLN.out]; exact hlt) (by rw [← HX.out, ← HQ.out, hxa, hxb]) HNO.out
                have hd : (L.getD i oz).1 = (a, kn S a + 1) := by rw [← HX.out, ← HQ.out, hxa, hxb]
                refine Or.inr ⟨i, rfl, by rw [HLN.out]; exact hlt, ?_, by rw [hd]; exact hh.2⟩
                rw [← HNX.out]
                refine next_found hk8 ?_
                rw [← HA.out]; exact hh.1
              clear hxa hxb
              go_wp2_with fail
              go_quiet (fail)
              generalize hwq : World.drewN _ _ = wq
              have HBq : Hid (Below w.heap.size w wq) := by unfold Hid; rw [← hwq]; exact bel_drew HBk.out _
              clear hwq
              go_wp2_with fail
              go_ret
              exact ⟨⟨_, rfl, HF.out⟩, HBq.out⟩
            · have hxbb : (xb == q + 1) = false := by simpa using hxb
              have HNO2 : Hid (∀ j, j < i + 1 → (L.getD j oz).1 ≠ (a, kn S a + 1)) := fun j hj e => by
                rcases Nat.lt_succ_iff_lt_or_eq.1 hj with h9 | rfl
                · exact HNO.out j h9 e
                · rw [← HX.out] at e
                  injection e with _ e
                  exact hxb (by rw [e, HQ.out])
              clear hxa hxb
              go_wp2_with fail
              go_quiet (fail)
              generalize hwq : World.drewN _ _ = wq
              have HBq : Hid (Below w.heap.size w wq) := by unfold Hid; rw [← hwq]; exact bel_drew HBk.out _
              clear hwq
              go_wp2_with fail
              go_roundw
              case rel => exact ⟨i + 1, by omega, by go_num, HNO2, HBq⟩
              case measure => simp [intOf]; omega
          · have hxab : (xa == a) = false := by simpa using hxa
            have HNO2 : Hid (∀ j, j < i + 1 → (L.getD j oz).1 ≠ (a, kn S a + 1)) := fun j hj e => by
              rcases Nat.lt_succ_iff_lt_or_eq.1 hj with h9 | rfl
              · exact HNO.out j h9 e
              · rw [← HX.out] at e
                injection e with e _
                exact hxa e
            clear hxa
            go_wp2_with fail
            go_quiet (fail)
            generalize hwq : World.drewN _ _ = wq
            have HBq : Hid (Below w.heap.size w wq) := by unfold Hid; rw [← hwq]; exact bel_drew HBk.out _
            clear hwq
            go_wp2_with fail
            go_roundw
            case rel => exact ⟨i + 1, by omega, by go_num, HNO2, HBq⟩
            case measure => simp [intOf]; omega
        · have hltz : ¬ (i : Int) < N := by omega
          have HF : Hid (nextAt S L (8 - (k + 1)) (k + 1) = nextO S L) := by
            unfold Hid
            rw [← HNX.out]
            refine (next_skip hk8 ?_).symm
            refine dotIn_all fun j hj => ?_
            rw [← HA.out]
            exact HNO.out j (by rw [HLN.out] at hj; omega)
          go_wp2_with fail
          go_roundw
          case rel => exact ⟨k + 1, a + 1, by omega, by go_num, by omega, by omega, by unfold Hid; rw [HA.out]; simp, HF, HBk⟩
          case measure => simp [intOf]; omega
    · have hk8 : k = 8 := by have := HA.out; omega
      subst hk8
      have HF : Hid (nextO S L = none) := HNX.out.symm
      go_wp2_with fail
      go_ret
      exact ⟨⟨_, rfl, Or.inl ⟨HF.out, rfl⟩⟩, HBk.out⟩

end Jm
end Go.Proofs.YtnniggjeadlbgaaGreatDoor
