/- What readOps answers: the ops that the bytes are, or the panic of bytes that are none. -/
import Derived.Test.YtcmoajlcmeimiaaDoorVl
namespace Go.Proofs.YtcmoajlcmeimiaaDoor
namespace Vm
set_option linter.unusedVariables false
open Go.ChangeShapes Go.WideShapes Go.ChangeAt Go.RowKit Cm Ka Kb Na Om Oa Oz Oc Og Oi Ov Va Vb Vc Vd Ve Vf Vg Vh Vi Vj Vk Vl
open La (bel bel_drew errV_zero errV_ne own_ge own_grow own_below)

theorem infoO : (Tryd.prog.info? 53).map (fun i => (i.zero, i.size, i.bytes)) = some (some (.agg #[.int .i64 0, .int .i64 0, .int .i64 0, .string ⟨#[]⟩, .int .i64 0, .slice none 0 0]), 6, 72) := by kernel_rfl
/- what an op of a row saw, apart from the row, in blocks from L on -/
def Apart (L : Nat) (w : World) (v : Value) (y : Ox × Value) : Prop :=
  ∃ a b, L ≤ a ∧ (∀ W : World, (∀ k, a ≤ k → k < b → W.heap[k]? = w.heap[k]?) → DtsAt W y.2 y.1.2.2.2.2) ∧ b ≤ w.heap.size ∧ ∀ g, v.ownBlock = some g → ¬ (a ≤ g ∧ g < b)
theorem Apart.at {L : Nat} {w W : World} {v : Value} {y : Ox × Value} (h : Apart L w v y) (hW : ∀ k, L ≤ k → k < w.heap.size → W.heap[k]? = w.heap[k]?) : DtsAt W y.2 y.1.2.2.2.2 := by
  obtain ⟨a, b, h0, h1, h2, _⟩ := h
  exact h1 W (fun k hk1 hk2 => hW k (by omega) (by omega))
theorem Apart.same {L : Nat} {w w2 : World} {v : Value} {y : Ox × Value} (h : Apart L w v y) (hs : w.heap.size ≤ w2.heap.size) (hb : ∀ k, L ≤ k → k < w.heap.size → w2.heap[k]? = w.heap[k]?) : Apart L w2 v y := by
  obtain ⟨a, b, h0, h1, h2, h3⟩ := h
  exact ⟨a, b, h0, fun W hW => h1 W (fun k hk1 hk2 => (hW k hk1 hk2).trans (hb k (by omega) (by omega))), Nat.le_trans h2 hs, h3⟩
theorem Apart.grown {L : Nat} {w w2 : World} {v v2 : Value} {y : Ox × Value} (h : Apart L w v y) (hg : w.grownBy w2 v.ownBlock) (hat : v2.ownBlock = v.ownBlock ∨ v2.ownBlock = some w.heap.size) : Apart L w2 v2 y := by
  obtain ⟨a, b, h0, h1, h2, h3⟩ := h
  refine ⟨a, b, h0, fun W hW => h1 W (fun k hk1 hk2 => (hW k hk1 hk2).trans (hg.block k (by omega) (fun e => h3 k e.symm ⟨hk1, hk2⟩))), Nat.le_trans h2 hg.size, ?_⟩
  intro g hg2
  rcases hat with e | e
  · exact h3 g (by rw [← e]; exact hg2)
  · rw [e] at hg2
    injection hg2 with hg2
    omega
theorem apart_new {L : Nat} {w w2 : World} {v u : Value} {x : Ox} (hL : L ≤ w.heap.size) (hk : Kept w.heap.size w2 (opV x u) x) (hv : ∀ g, v.ownBlock = some g → g < w.heap.size) : Apart L w2 v (x, u) := by
  refine ⟨w.heap.size, w2.heap.size, hL, fun W hW => ?_, Nat.le_refl _, fun g hg => by have := hv g hg; omega⟩
  obtain ⟨u2, e, hd⟩ := hk W hW
  unfold opV at e
  injection e with e
  simp only [Array.mk.injEq, List.cons.injEq, and_true] at e
  rw [e.2.2.2.2.2]; exact hd
theorem many_step {k : Nat} {L : List UInt8} : manyB (k + 1) L = if L.length < 2 ∨ L.length < 2 + numAt L 0 then none else match decB ((L.drop 2).take (numAt L 0)) with
    | none => none
    | some o => (manyB k (L.drop (2 + numAt L 0))).map fun q => (o :: q.1, q.2) := by
  conv => lhs; unfold manyB
  unfold numAt
  simp only [Nat.zero_add]
  split
  · rfl
  · split
    · rename_i h9
      rw [h9]
    · rename_i o ho
      rw [ho]
      cases manyB k (L.drop (2 + ((L.getD 0 0).toNat * 256 + (L.getD 1 0).toNat))) with
      | none => rfl
      | some q => rfl
theorem num_drop (L : List UInt8) (A : Nat) : numAt (L.drop A) 0 = numAt L A := by
  unfold numAt
  simp only [List.getD_eq_getElem?_getD, List.getElem?_drop, Nat.add_zero, Nat.zero_add]

theorem num_zero (L : List UInt8) : numAt L 0 = (L.getD 0 0).toNat * 256 + (L.getD 1 0).toNat := rfl
theorem own_appO {w : World} {base : Nat} {t : TypeId} {v : Value} {n m : Nat} {a b : List (Ox × Value)} (hn : a.length = n) (hm : b.length = m) (h : w.ownsRow base t 6 v (n + m) (flatO a ++ flatO b)) : w.ownsRow base t 6 v (a ++ b).length (flatO (a ++ b)) := by
  rw [List.length_append, flatO_append, hn, hm]; exact h
theorem op_new (w : World) (x : Ox) (u : Value) (t : TypeId) : ∀ j y, (flatO [(x, u)])[j]? = some y → (w.alloc (.cells #[.int .i64 x.1.1, .int .i64 x.1.2, .int .i64 x.2.1, .string x.2.2.1, .int .i64 x.2.2.2.1, u] t)).cell? ((⟨w.heap.size, 0, none⟩ : Addr).add j) = some y := by
  intro j y hu
  have h2 := heap_alloc_new w (.cells #[.int .i64 x.1.1, .int .i64 x.1.2, .int .i64 x.2.1, .string x.2.2.1, .int .i64 x.2.2.2.1, u] t)
  have e : flatO [(x, u)] = [.int .i64 x.1.1, .int .i64 x.1.2, .int .i64 x.2.1, .string x.2.2.1, .int .i64 x.2.2.2.1, u] := rfl
  rw [e] at hu
  rw [Addr.add_lit, Nat.zero_add]
  simp only [World.cell?, h2]
  simpa using hu
theorem flatO_one (x : Ox) (u : Value) (hu : u.oneCell' = true) : ∀ y ∈ flatO [(x, u)], y.oneCell' = true := by
  intro y hy
  have e : flatO [(x, u)] = [.int .i64 x.1.1, .int .i64 x.1.2, .int .i64 x.2.1, .string x.2.2.1, .int .i64 x.2.2.2.1, u] := rfl
  rw [e] at hy
  simp only [List.mem_cons, List.not_mem_nil, or_false] at hy
  rcases hy with rfl | rfl | rfl | rfl | rfl | rfl
  all_goals first | rfl | exact hu
def PostU (s : ByteArray) (w : World) (e : Ending) (w' : World) : Prop :=
  (unpB s.toList = none ∧ e = .panicked SynP ∧ Below w.heap.size w w') ∨ ∃ l p n c, unpB s.toList = some l ∧ e = .returned (.slice p n c) ∧ (∀ W : World, (∀ k, w.heap.size ≤ k → k < w'.heap.size → W.heap[k]? = w'.heap[k]?) → OpsAt W (.slice p n c) l) ∧ Below w.heap.size w w'
theorem PostU.no {s : ByteArray} {w w' : World} (h : unpB s.toList = none) (hb : Below w.heap.size w w') : PostU s w (.panicked SynP) w' := Or.inl ⟨h, rfl, hb⟩
theorem PostU.yes {s : ByteArray} {w w' : World} {l : List Ox} {p : Option Addr} {n c : Nat} (h : unpB s.toList = some l) (hk : ∀ W : World, (∀ k, w.heap.size ≤ k → k < w'.heap.size → W.heap[k]? = w'.heap[k]?) → OpsAt W (.slice p n c) l) (hb : Below w.heap.size w w') : PostU s w (.returned (.slice p n c)) w' := Or.inr ⟨l, p, n, c, h, rfl, hk, hb⟩
theorem row_grow {w w5 w9 : World} {O : Obj} {t : TypeId} {z : Nat} {v : Value} {n : Nat} {xs : List Value} (h : w5.ownsRow (w.heap.size + 1) t z v n xs) (hb : Below w.heap.size w w5) (hg : (w5.alloc O).grownBy w9 v.ownBlock) : Below w.heap.size w w9 :=
  (hb.alloc hb.size O).trans ⟨hg.os, hg.tape, hg.output, hg.size, fun k hk => hg.block k (by have := hb.size; simp; omega) (fun e => by have := (World.ownsRow.lt h k e.symm).1; omega)⟩
theorem row_rd {w w5 w9 : World} {O : Obj} {t : TypeId} {z : Nat} {v : Value} {n : Nat} {xs : List Value} {r : ByteArray} (h : w5.ownsRow (w.heap.size + 1) t z v n xs) (hr : Rd w5 w.heap.size r) (hg : (w5.alloc O).grownBy w9 v.ownBlock) : Rd w9 w.heap.size r := by
  have hlt : w.heap.size < w5.heap.size := by
    rcases Nat.lt_or_ge w.heap.size w5.heap.size with e | e
    · exact e
    · unfold Rd at hr; rw [Array.getElem?_eq_none e] at hr; cases hr
  exact (hg.block _ (by simp; omega) (fun e => by have := (World.ownsRow.lt h _ e.symm).1; omega)).trans ((heap_alloc_old w5 O hlt).trans hr)
theorem only_same {g L : Nat} {w w2 : World} (h : Only g w w2) (hg : g < L) : ∀ k, L ≤ k → k < w.heap.size → w2.heap[k]? = w.heap[k]? := fun k hk _ => h.block k (by omega)

set_option maxRecDepth 100000 in
set_option maxHeartbeats 4000000 in
theorem readOps_any (s : ByteArray) (w : World) (hs : s.size ≤ maxLen) : Calls Tryd.prog 63 #[.string s] w (PostU s w) := by
  have hm := hs
  unfold maxLen at hm
  have HA0 : Hid (Rd (w.alloc (.cells #[.string s] 112)) w.heap.size (s.extract 0 s.size) ∧ Below w.heap.size w (w.alloc (.cells #[.string s] 112)) ∧ (w.alloc (.cells #[.string s] 112)).heap.size = w.heap.size + 1) :=
    ⟨by rw [ext_all]; exact heap_alloc_new w _, (Below.refl _ w).alloc (Nat.le_refl _) _, by simp⟩
  obtain ⟨W0, hW0⟩ : ∃ W0, W0 = w.alloc (.cells #[.string s] 112) := ⟨_, rfl⟩
  have HW0 : Hid (W0 = w.alloc (.cells #[.string s] 112)) := hW0
  rw [← hW0] at HA0
  clear hW0
  go_enter Tryd.func63, Tryd.ntmps63
  go_wp2_with fail
  rw [← HW0.out]
  clear HW0
  by_cases h2 : s.size < 0 + 2
  · have HN : Hid (unpB s.toList = none) := by unfold Hid unpB; rw [if_pos (Or.inl (by rw [Om.len_eq]; omega))]
    refine (two_no _ s 0 W0 HA0.out.1 (by omega) h2 hs).mono ?_
    rintro e w2 ⟨rfl, hg2⟩
    have HB2 : Hid (Below w.heap.size w w2) := HA0.out.2.1.trans (grown_below hg2 (Nat.le_refl _) (by have := HA0.out.2.2; omega))
    clear hg2
    go_wp2_with fail
    exact ⟨rfl, PostU.no HN.out HB2.out⟩
  have h2p : 0 + 2 ≤ s.size := by omega
  have CN := two_ok _ s 0 W0 HA0.out.1 h2p hs
  obtain ⟨n, hn⟩ : ∃ n, n = numAt s.toList 0 := ⟨_, rfl⟩
  rw [← hn] at CN
  by_cases h4 : 400 < n
  · have HN : Hid (unpB s.toList = none) := by unfold Hid unpB; rw [if_pos (Or.inr (by rw [← num_zero, ← hn]; exact h4))]
    have h4z : (400 : Int) < n := by omega
    clear hn
    refine CN.mono ?_
    rintro e w2 ⟨rfl, hr2, ho2⟩
    have HB2 : Hid (Below w.heap.size w w2) := HA0.out.2.1.trans (ho2.below (Nat.le_refl _))
    clear hr2 ho2 CN
    go_wp2_with fail
    exact ⟨rfl, PostU.no HN.out HB2.out⟩
  have h4z : ¬ (400 : Int) < n := by omega
  have HU : Hid (unpB s.toList = match manyB n (s.toList.drop 2) with | some (l, []) => some l | _ => none) := by
    unfold Hid unpB; rw [if_neg (by rw [← num_zero, ← hn, Om.len_eq]; omega), ← num_zero, ← hn]
    rfl
  clear hn
  refine CN.mono ?_
  rintro e w2 ⟨rfl, hr2, ho2⟩
  have K2 : Hid (Below w.heap.size w w2) := HA0.out.2.1.trans (ho2.below (Nat.le_refl _))
  have R2 : Hid (Rd w2 w.heap.size (s.extract 2 s.size)) := hr2
  have Z2 : Hid (w.heap.size + 1 ≤ w2.heap.size) := by unfold Hid; have := ho2.size; have := HA0.out.2.2; omega
  clear hr2 ho2 CN HA0
  obtain ⟨i0, hi, hz0, hz1, hzz2⟩ := info_parts infoO
  go_wp2_with fail
  go_loopw [5, 13] (fun v i wr => ∃ (k A : Nat) (done : List (Ox × Value)), k ≤ n ∧ i = .int .i64 k ∧ (∃ P N C, v = .slice P N C) ∧ Hid (A ≤ s.size) ∧ Hid (done.length = k) ∧ Hid (wr.ownsRow (w.heap.size + 1) 53 6 v done.length (flatO done)) ∧ Hid (∀ y ∈ done, Apart (w.heap.size + 1) wr v y) ∧ Hid (manyB n (s.toList.drop 2) = (manyB (n - k) (s.toList.drop A)).map fun q => (done.map (·.1) ++ q.1, q.2)) ∧ Hid (Below w.heap.size w wr) ∧ Hid (Rd wr w.heap.size (s.extract A s.size)) ∧ Hid (w.heap.size + 1 ≤ wr.heap.size)) (fun _ i _ => n - (intOf i).toNat)
  case atStart => exact ⟨0, 2, [], by omega, rfl, ⟨_, _, _, rfl⟩, h2p, rfl, World.ownsRow_nil _ _ _ _, fun y hy => by simp at hy, by unfold Hid; cases manyB (n - 0) (s.toList.drop 2) <;> simp_all, K2, R2, Z2⟩
  case round =>
    clear K2 R2 Z2
    obtain ⟨k, A, done, hk, rfl, ⟨p0, n0, c0, rfl⟩, HAs, HDL, KW, KA, KM, K, KR, KZ⟩ := hrel
    by_cases hlt : k < n
    · have hltz : (k : Int) < n := by omega
      obtain ⟨j, hj⟩ : ∃ j, n - k = j + 1 := ⟨n - k - 1, by omega⟩
      rw [hj] at KM
      have hst := @many_step j (s.toList.drop A)
      rw [List.length_drop, Om.len_eq, num_drop] at hst
      have HJ : Hid (n - (k + 1) = j) := by unfold Hid; omega
      have hAs := HAs.out
      have HST := hst
      rw [← num_drop] at HST
      have HST1 : Hid (manyB (j + 1) (s.toList.drop A) = if s.size - A < 2 ∨ s.size - A < 2 + numAt s.toList A then none else match decB (((s.toList.drop A).drop 2).take (numAt s.toList A)) with
        | none => none
        | some o => (manyB j ((s.toList.drop A).drop (2 + numAt s.toList A))).map fun q => (o :: q.1, q.2)) := hst
      clear hst hj HST
      go_wp2_with fail
      by_cases c1 : s.size < A + 2
      · have HN : Hid (unpB s.toList = none) := by
          unfold Hid; rw [HU.out, KM.out, HST1.out, if_pos (Or.inl (by omega))]; rfl
        clear HST1 HJ
        refine (two_no _ s A wr KR.out hAs c1 hs).mono ?_
        rintro e w3 ⟨rfl, hg3⟩
        have HB3 : Hid (Below w.heap.size w w3) := K.out.trans (grown_below hg3 (Nat.le_refl _) (by have := KZ.out; omega))
        clear hg3
        go_wp2_with fail
        exact ⟨rfl, PostU.no HN.out HB3.out⟩
      have c1p : A + 2 ≤ s.size := by omega
      have CN := two_ok _ s A wr KR.out c1p hs
      have hd := numAt_le s.toList A
      obtain ⟨d, hde⟩ : ∃ d, d = numAt s.toList A := ⟨_, rfl⟩
      rw [← hde] at CN hd HST1
      clear hde
      refine CN.mono ?_
      rintro e w3 ⟨rfl, hr3, ho3⟩
      have K3 : Hid (Below w.heap.size w w3) := K.out.trans (ho3.below (Nat.le_refl _))
      have R3 : Hid (Rd w3 w.heap.size (s.extract (A + 2) s.size)) := hr3
      have O3 : Hid (Only w.heap.size wr w3) := ho3
      clear hr3 ho3 CN
      go_wp2_with fail
      by_cases c2 : s.size < A + 2 + d
      · have HN : Hid (unpB s.toList = none) := by
          unfold Hid; rw [HU.out, KM.out, HST1.out, if_pos (Or.inr (by omega))]; rfl
        clear HST1 HJ
        refine (take_no _ s (A + 2) d w3 R3.out c1p c2 hs).mono ?_
        rintro e w4 ⟨rfl, hw⟩
        have hw2 := hw.symm; subst hw2; clear hw
        go_wp2_with fail
        exact ⟨rfl, PostU.no HN.out K3.out⟩
      have c2p : A + 2 + d ≤ s.size := by omega
      have CT := take_ok _ s (A + 2) d w3 R3.out c2p hs
      obtain ⟨Y, hY⟩ : ∃ Y, s.extract (A + 2) (A + 2 + d) = Y := ⟨_, rfl⟩
      rw [hY] at CT
      have hYm : Y.size ≤ maxLen := by rw [← hY, size_extract s (A + 2) (A + 2 + d) c2p]; omega
      have hYl : (List.drop 2 (s.toList.drop A)).take d = Y.toList := by
        rw [← hY, list_extract, List.drop_drop, List.drop_take, show A + 2 + d - (A + 2) = d by omega]
      have hDE : (s.toList.drop A).drop (2 + d) = s.toList.drop (A + 2 + d) := by rw [List.drop_drop, show A + (2 + d) = A + 2 + d by omega]
      have hst2 := HST1.out
      rw [if_neg (by omega), hYl, hDE] at hst2
      have HST : Hid (manyB (j + 1) (s.toList.drop A) = match decB Y.toList with
        | none => none
        | some o => (manyB j (s.toList.drop (A + 2 + d))).map fun q => (o :: q.1, q.2)) := hst2
      clear hst2 HST1 hYl hDE hY
      have HDL2 : Hid (done.length ≤ 400) := by unfold Hid; have := HDL.out; omega
      refine CT.mono ?_
      rintro e w4 ⟨rfl, hr4, ho4⟩
      have K4 : Hid (Below w.heap.size w w4) := K3.out.trans (ho4.below (Nat.le_refl _))
      have R4 : Hid (Rd w4 w.heap.size (s.extract (A + 2 + d) s.size)) := hr4
      have O4 : Hid (Only w.heap.size wr w4) := Vg.Only.trans O3.out ho4
      clear hr4 ho4 CT K3 R3 O3
      go_wp2_with fail
      cases hdb : decB Y.toList with
      | none =>
        have HN : Hid (unpB s.toList = none) := by
          unfold Hid; rw [HU.out, KM.out, HST.out, hdb]; rfl
        refine (read_no hdb hYm).mono ?_
        rintro e w5 ⟨rfl, hb5⟩
        have K5 : Hid (Below w.heap.size w w5) := bel K4.out hb5
        clear hb5 HST HJ hdb
        go_wp2_with fail
        exact ⟨rfl, PostU.no HN.out K5.out⟩
      | some x =>
        have KM2 : Hid (∀ u : Value, manyB n (s.toList.drop 2) = (manyB (n - (k + 1)) (s.toList.drop (A + 2 + d))).map fun q => ((done ++ [(x, u)]).map (·.1) ++ q.1, q.2)) := by
          intro u
          rw [KM.out, HST.out, hdb, HJ.out]
          cases manyB j (s.toList.drop (A + 2 + d)) with
          | none => rfl
          | some q => simp
        have CD := read_yes (W := w4) hdb hYm
        clear HST HJ hdb KM
        refine CD.mono ?_
        rintro e w5 ⟨pv, nv, cv, rfl, hu, hb5⟩
        have K5 : Hid (Below w.heap.size w w5) := bel K4.out hb5
        have R5 : Hid (Rd w5 w.heap.size (s.extract (A + 2 + d) s.size)) := keep_heap hb5 R4.out
        have KX5 : Hid (∀ k, w.heap.size + 1 ≤ k → k < wr.heap.size → w5.heap[k]? = wr.heap[k]?) := fun k h1 h2 => (hb5.block k (by have := O4.out.size; omega)).trans (O4.out.block k (by omega))
        have KS5 : Hid (wr.heap.size ≤ w5.heap.size) := by unfold Hid; have := O4.out.size; have := hb5.size; omega
        have HAP : Hid (Apart (w.heap.size + 1) w5 (.slice p0 n0 c0) (x, .slice pv nv cv)) := apart_new (by have := O4.out.size; have := KZ.out; omega) hu (fun g hg => by have := (KW.out.lt g hg).2; have := O4.out.size; omega)
        have KA5 : Hid (∀ y ∈ done, Apart (w.heap.size + 1) w5 (.slice p0 n0 c0) y) := fun y hy => (KA.out y hy).same KS5.out KX5.out
        have KW5 : Hid (w5.ownsRow (w.heap.size + 1) 53 6 (.slice p0 n0 c0) done.length (flatO done)) := own_same KW.out KX5.out
        obtain ⟨⟨xa, xb⟩, xt, xp, xc, xs⟩ := x
        unfold opV
        simp only
        have HBX : Hid (∀ O1, Below w5.heap.size w5 (w5.alloc O1)) := fun O1 => (Below.refl _ _).alloc (Nat.le_refl _) O1
        have HN6 : Hid (∀ j y, (flatO [(((xa, xb), xt, xp, xc, xs), Value.slice pv nv cv)])[j]? = some y → (w5.alloc (.cells #[.int .i64 xa, .int .i64 xb, .int .i64 xt, .string xp, .int .i64 xc, .slice pv nv cv] 53)).cell? ((⟨w5.heap.size, 0, none⟩ : Addr).add j) = some y) := op_new w5 ((xa, xb), xt, xp, xc, xs) (.slice pv nv cv) 53
        have HSZ : Hid (∀ O1, w.heap.size + 1 ≤ (w5.alloc O1).heap.size) := fun O1 => by have := KS5.out; have := KZ.out; simp; omega
        have hcap1 : done.length + 1 ≤ maxLen := by have := HDL2.out; unfold maxLen; omega
        have hcap2 : (done.length + 1) * 72 ≤ 140737488355328 := by have := HDL2.out; omega
        clear hb5 CD hu
        go_wp2_with (at_builtin; refine wpList_append_own_at _ rfl (.tmp 15) (.tmp 19) 54 rfl (w.heap.size + 1) 53 i0 (.agg #[.int .i64 0, .int .i64 0, .int .i64 0, .string ⟨#[]⟩, .int .i64 0, .slice none 0 0]) 6 72 Tryd.underlying54 hi hz0 hz1 hzz2 rfl (by decide) (.slice p0 n0 c0) done.length (flatO done) rfl (KW5.out.alloc _) ⟨w5.heap.size, 0, none⟩ 1 1 (flatO [(((xa, xb), xt, xp, xc, xs), Value.slice pv nv cv)]) rfl rfl HN6.out (flatO_one _ _ rfl) hcap1 hcap2 (HSZ.out _) ?_; intro v9 w9 hown9 hgrow9 _ hat9; have KW9 : Hid (w9.ownsRow (w.heap.size + 1) 53 6 v9 (done ++ [(((xa, xb), xt, xp, xc, xs), Value.slice pv nv cv)]).length (flatO (done ++ [(((xa, xb), xt, xp, xc, xs), Value.slice pv nv cv)]))) := own_appO rfl rfl hown9; have K9 : Hid (Below w.heap.size w w9) := row_grow KW5.out K5.out hgrow9; have R9 : Hid (Rd w9 w.heap.size (s.extract (A + 2 + d) s.size)) := row_rd KW5.out R5.out hgrow9; have Z9 : Hid (w.heap.size + 1 ≤ w9.heap.size) := Nat.le_trans (HSZ.out _) hgrow9.size; have KA9 : Hid (∀ y ∈ done ++ [(((xa, xb), xt, xp, xc, xs), Value.slice pv nv cv)], Apart (w.heap.size + 1) w9 v9 y) := (fun y hy => by (rcases List.mem_append.1 hy with hy | hy); (exact ((KA5.out y hy).same (HBX.out _).size (fun k _ hk => (HBX.out _).block k hk)).grown hgrow9 hat9); (rw [List.mem_singleton.1 hy]; exact (HAP.out.same (HBX.out _).size (fun k _ hk => (HBX.out _).block k hk)).grown hgrow9 hat9)); obtain ⟨p9, N9, c9, hv9, _⟩ := own_shape KW9.out; subst hv9; clear hown9 hgrow9 hat9)
        go_roundw
        case rel => exact ⟨k + 1, A + 2 + d, done ++ [(((xa, xb), xt, xp, xc, xs), Value.slice pv nv cv)], by omega, by go_num, ⟨_, _, _, rfl⟩, c2p, by unfold Hid; rw [List.length_append, HDL.out]; rfl, KW9, KA9, KM2.out _, K9, R9, Z9⟩
        case measure => simp [intOf]; omega
    · obtain rfl : n = k := by omega
      have hltz : ¬ (n : Int) < n := by omega
      have HM : Hid (manyB n (s.toList.drop 2) = some (done.map (·.1), s.toList.drop A)) := by
        have h9 := KM.out
        rw [Nat.sub_self] at h9
        unfold Hid; rw [h9]; unfold manyB; simp
      have hAs := HAs.out
      have q0 : wr.cell? ⟨w.heap.size, 0, none⟩ = some (.string (s.extract A s.size)) := cell_of KR.out rfl
      obtain ⟨r, hr⟩ : ∃ r, r = s.extract A s.size := ⟨_, rfl⟩
      rw [← hr] at q0
      have hrl : r.toList = s.toList.drop A := by rw [hr, list_rest]
      cases hdr : s.toList.drop A with
      | nil =>
        have HE : Hid (unpB s.toList = some (done.map (·.1))) := by
          unfold Hid; rw [HU.out, HM.out, hdr]
        have hrb : (r.toList == []) = true := by rw [hrl, hdr]; rfl
        have KO : Hid (∀ W : World, (∀ k, w.heap.size ≤ k → k < wr.heap.size → W.heap[k]? = wr.heap[k]?) → OpsAt W (.slice p0 n0 c0) (done.map (·.1))) := fun W hW => own_ops (own_same KW.out (fun k h1 h2 => hW k (by omega) h2)) (fun y hy => (KA.out y hy).at (fun k h1 h2 => hW k (by omega) h2))
        have hre : r = ⟨#[]⟩ := by
          apply mk_eq; rw [hrl, hdr]; exact (toList_mk []).symm
        subst hre
        clear hr hrl hdr hrb
        go_wp2_with fail
        go_ret
        exact PostU.yes HE.out KO.out K.out
      | cons y rr =>
        have HN : Hid (unpB s.toList = none) := by
          unfold Hid; rw [HU.out, HM.out, hdr]
        have hrb : (r.toList == []) = false := by rw [hrl, hdr]; rfl
        clear hr hrl hdr
        go_wp2_with fail
        exact ⟨rfl, PostU.no HN.out K.out⟩

end Vm
end Go.Proofs.YtcmoajlcmeimiaaDoor
