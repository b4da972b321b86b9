/- What the reference's Unpack answers. -/
import Derived.Test.YtpoijhfojdmdpaaGreatDoorO1
namespace Go.Proofs.YtpoijhfojdmdpaaGreatDoor
namespace Ok
set_option linter.unusedVariables false
open Go.ChangeShapes Go.WideShapes Go.ChangeAt Go.RowKit Cm Ka Kb Na Om Oa Oz Oc Od Oe Og Oi Oh
open La (bel bel_drew errV_zero errV_ne own_ge own_grow own_below)

theorem infoO : (Tryz.prog.info? 30).map (fun i => (i.zero, i.size, i.bytes)) = some (some (.agg #[.int .i64 0, .int .i64 0, .int .i64 0, .string ⟨#[]⟩, .int .i64 0, .slice none 0 0]), 6, 72) := by kernel_rfl
/- a row of ops of the call's own, and what each of them saw, apart from the row -/
def Apart (B : Nat) (w : World) (v : Value) (y : Ox × Value) : Prop :=
  ∃ a b, (∀ W : World, (∀ k, a ≤ k → k < b → W.heap[k]? = w.heap[k]?) → DtsAt W y.2 y.1.2.2.2.2) ∧ B ≤ a ∧ b ≤ w.heap.size ∧ ∀ g, v.ownBlock = some g → ¬ (a ≤ g ∧ g < b)
theorem Apart.kept {B : Nat} {w W : World} {v : Value} {y : Ox × Value} (h : Apart B w v y) (hW : ∀ k, B ≤ k → k < w.heap.size → W.heap[k]? = w.heap[k]?) : DtsAt W y.2 y.1.2.2.2.2 := by
  obtain ⟨a, b, h1, h0, h2, _⟩ := h
  exact h1 W (fun k hk1 hk2 => hW k (by omega) (by omega))
theorem Apart.below {B : Nat} {w w2 : World} {v : Value} {y : Ox × Value} (h : Apart B w v y) (hb : Below w.heap.size w w2) : Apart B w2 v y := by
  obtain ⟨a, b, h1, h0, h2, h3⟩ := h
  exact ⟨a, b, fun W hW => h1 W (fun k hk1 hk2 => (hW k hk1 hk2).trans (hb.block k (by omega))), h0, Nat.le_trans h2 hb.size, h3⟩
theorem Apart.grown {B : Nat} {w w2 : World} {v v2 : Value} {y : Ox × Value} (h : Apart B w v y) (hg : w.grownBy w2 v.ownBlock) (hat : v2.ownBlock = v.ownBlock ∨ v2.ownBlock = some w.heap.size) : Apart B w2 v2 y := by
  obtain ⟨a, b, h1, h0, h2, h3⟩ := h
  refine ⟨a, b, fun W hW => h1 W (fun k hk1 hk2 => (hW k hk1 hk2).trans (hg.block k (by omega) (fun e => h3 k e.symm ⟨hk1, hk2⟩))), h0, Nat.le_trans h2 hg.size, ?_⟩
  intro g hg2
  rcases hat with e | e
  · exact h3 g (by rw [← e]; exact hg2)
  · rw [e] at hg2
    injection hg2 with hg2
    omega
/- what has just been read is apart from a row that was there -/
theorem apart_new {w w2 : World} {v u : Value} {x : Ox} {B : Nat} (hB : B ≤ w.heap.size) (hk : Kept w.heap.size w2 (opV x u) x) (hv : ∀ g, v.ownBlock = some g → g < w.heap.size) : Apart B w2 v (x, u) := by
  refine ⟨w.heap.size, w2.heap.size, fun W hW => ?_, hB, Nat.le_refl _, fun g hg => by have := hv g hg; omega⟩
  obtain ⟨u2, e, hd⟩ := hk W hW
  unfold opV at e
  injection e with e
  simp only [Array.mk.injEq, List.cons.injEq, and_true] at e
  rw [e.2.2.2.2.2]; exact hd
theorem many_step {k : Nat} {L : List UInt8} : manyB (k + 1) L = if L.length < 2 ∨ L.length < 2 + numAt L 0 then none else match decB ((L.drop 2).take (numAt L 0)) with
    | none => none
    | some o => (manyB k (L.drop (2 + numAt L 0))).map fun q => (o :: q.1, q.2) := by
  conv => lhs; unfold manyB
  unfold numAt
  simp only [Nat.zero_add]
  split
  · rfl
  · split
    · rename_i h9
      rw [h9]
    · rename_i o ho
      rw [ho]
      cases manyB k (L.drop (2 + ((L.getD 0 0).toNat * 256 + (L.getD 1 0).toNat))) with
      | none => rfl
      | some q => rfl
theorem num_drop (L : List UInt8) (A : Nat) : numAt (L.drop A) 0 = numAt L A := by
  unfold numAt
  simp only [List.getD_eq_getElem?_getD, List.getElem?_drop, Nat.add_zero, Nat.zero_add]

theorem num_zero (L : List UInt8) : numAt L 0 = (L.getD 0 0).toNat * 256 + (L.getD 1 0).toNat := rfl
theorem own_appO {w : World} {base : Nat} {t : TypeId} {v : Value} {n m : Nat} {a b : List (Ox × Value)} (hn : a.length = n) (hm : b.length = m) (h : w.ownsRow base t 6 v (n + m) (flatO a ++ flatO b)) : w.ownsRow base t 6 v (a ++ b).length (flatO (a ++ b)) := by
  rw [List.length_append, flatO_append, hn, hm]; exact h
theorem op_new (w : World) (x : Ox) (u : Value) (t : TypeId) : ∀ j y, (flatO [(x, u)])[j]? = some y → (w.alloc (.cells #[.int .i64 x.1.1, .int .i64 x.1.2, .int .i64 x.2.1, .string x.2.2.1, .int .i64 x.2.2.2.1, u] t)).cell? ((⟨w.heap.size, 0, none⟩ : Addr).add j) = some y := by
  intro j y hu
  have h2 := heap_alloc_new w (.cells #[.int .i64 x.1.1, .int .i64 x.1.2, .int .i64 x.2.1, .string x.2.2.1, .int .i64 x.2.2.2.1, u] t)
  have e : flatO [(x, u)] = [.int .i64 x.1.1, .int .i64 x.1.2, .int .i64 x.2.1, .string x.2.2.1, .int .i64 x.2.2.2.1, u] := rfl
  rw [e] at hu
  rw [Addr.add_lit, Nat.zero_add]
  simp only [World.cell?, h2]
  simpa using hu
theorem flatO_one (x : Ox) (u : Value) (hu : u.oneCell' = true) : ∀ y ∈ flatO [(x, u)], y.oneCell' = true := by
  intro y hy
  have e : flatO [(x, u)] = [.int .i64 x.1.1, .int .i64 x.1.2, .int .i64 x.2.1, .string x.2.2.1, .int .i64 x.2.2.2.1, u] := rfl
  rw [e] at hy
  simp only [List.mem_cons, List.not_mem_nil, or_false] at hy
  rcases hy with rfl | rfl | rfl | rfl | rfl | rfl
  all_goals first | rfl | exact hu
set_option maxRecDepth 100000 in
set_option maxHeartbeats 4000000 in
theorem unpack_kept (s : ByteArray) (w : World) (hs : s.size ≤ maxLen) :
    Calls Tryz.prog 38 #[.string s] w fun e w' => ∃ v, e = .returned (.tuple #[v, .bool (unpB s.toList).isSome]) ∧ (∀ l, unpB s.toList = some l → ∀ W : World, (∀ k, w.heap.size ≤ k → k < w'.heap.size → W.heap[k]? = w'.heap[k]?) → OpsAt W v l) ∧ (∃ p n c, v = .slice p n c) ∧ Below w.heap.size w w' := by
  have hm := hs
  unfold maxLen at hm
  by_cases h2 : s.size < 2
  · have HE : Hid (unpB s.toList = none) := by unfold Hid unpB; rw [if_pos (Or.inl (by rw [Om.len_eq]; exact h2))]
    have hz : (s.size : Int) < 2 := by omega
    go_enter Tryz.func38, Tryz.ntmps38
    go_wp2_with fail
    go_ret2
    exact ⟨_, by rw [HE.out]; rfl, (fun l hl => by rw [HE.out] at hl; cases hl), ⟨_, _, _, rfl⟩, Below.refl _ _⟩
  have hz : ¬ (s.size : Int) < 2 := by omega
  have hz2 : (2 : Int) ≤ s.size := by omega
  have CN := fun W => number_ref s 0 W (by omega) hs
  obtain ⟨n, hn⟩ : ∃ n, n = numAt s.toList 0 := ⟨_, rfl⟩
  rw [← hn] at CN
  by_cases h4 : 400 < n
  · have HE : Hid (unpB s.toList = none) := by unfold Hid unpB; rw [if_pos (Or.inr (by rw [← num_zero, ← hn]; exact h4))]
    have h4z : (400 : Int) < n := by omega
    clear hn
    go_enter Tryz.func38, Tryz.ntmps38
    go_wp2_with fail
    refine (CN _).mono ?_
    rintro e w1 ⟨rfl, hb1⟩
    have K1 : Hid (Below w.heap.size w w1) := hb1
    clear hb1 CN
    go_wp2_with fail
    go_ret2
    exact ⟨_, by rw [HE.out]; rfl, (fun l hl => by rw [HE.out] at hl; cases hl), ⟨_, _, _, rfl⟩, K1.out⟩
  have h4z : ¬ (400 : Int) < n := by omega
  have HU : Hid (unpB s.toList = match manyB n (s.toList.drop 2) with | some (l, []) => some l | _ => none) := by
    unfold Hid unpB; rw [if_neg (by rw [← num_zero, ← hn, Om.len_eq]; omega), ← num_zero, ← hn]
    rfl
  clear hn
  go_enter Tryz.func38, Tryz.ntmps38
  go_wp2_with fail
  refine (CN _).mono ?_
  rintro e w1 ⟨rfl, hb1⟩
  have K1 : Hid (Below w.heap.size w w1) := hb1
  clear hb1
  go_wp2_with fail
  refine (CN _).mono ?_
  rintro e w2 ⟨rfl, hb2⟩
  have K2 : Hid (Below w.heap.size w w2) := bel K1.out hb2
  clear hb2 CN K1
  go_wp2_with fail
  obtain ⟨i0, hi, hz0, hz1, hzz2⟩ := info_parts infoO
  go_loopw [4, 6, 7] (fun v q i wr => ∃ (k A : Nat) (done : List (Ox × Value)), k ≤ n ∧ i = .int .i64 k ∧ q = .int .i64 A ∧ A ≤ s.size ∧ A ≤ 2 + 65537 * k ∧ (∃ P N C, v = .slice P N C) ∧ Hid (done.length = k) ∧ Hid (wr.ownsRow w.heap.size 30 6 v done.length (flatO done)) ∧ Hid (∀ y ∈ done, Apart w.heap.size wr v y) ∧ Hid (manyB n (s.toList.drop 2) = (manyB (n - k) (s.toList.drop A)).map fun q => (done.map (·.1) ++ q.1, q.2)) ∧ Hid (Below w.heap.size w wr)) (fun _ _ i _ => n - (intOf i).toNat)
  case atStart => exact ⟨0, 2, [], by omega, rfl, rfl, by omega, by omega, ⟨_, _, _, rfl⟩, rfl, World.ownsRow_nil _ _ _ _, fun y hy => by simp at hy, by unfold Hid; cases manyB (n - 0) (s.toList.drop 2) <;> simp_all, K2⟩
  case round =>
    clear K2
    obtain ⟨k, A, done, hk, rfl, rfl, hAs, hAk, ⟨p0, n0, c0, rfl⟩, HDL, KW, KA, KM, K⟩ := hrel
    have hAz : (A : Int) ≤ s.size := by omega
    by_cases hlt : k < n
    · have hltz : (k : Int) < n := by omega
      obtain ⟨j, hj⟩ : ∃ j, n - k = j + 1 := ⟨n - k - 1, by omega⟩
      rw [hj] at KM
      have hst := @many_step j (s.toList.drop A)
      rw [List.length_drop, Om.len_eq, num_drop] at hst
      have HJ : Hid (n - (k + 1) = j) := by unfold Hid; omega
      obtain ⟨A2, hA2⟩ : ∃ A2 : Nat, (A : Int) + 2 = (A2 : Int) := ⟨A + 2, by omega⟩
      by_cases c1 : s.size < A + 2
      · have HE : Hid (unpB s.toList = none) := by
          unfold Hid; rw [HU.out, KM.out, hst, if_pos (Or.inl (by omega))]; rfl
        have c1z : (s.size : Int) < A2 := by omega
        clear hst hj HJ c1
        go_wp2_with fail
        go_ret2
        exact ⟨_, by rw [HE.out]; rfl, (fun l hl => by rw [HE.out] at hl; cases hl), ⟨_, _, _, rfl⟩, K.out⟩
      · have c1z : ¬ (s.size : Int) < A2 := by omega
        have CN := fun W => number_ref s A W (by omega) hs
        have hd := numAt_le s.toList A
        obtain ⟨d, hde⟩ : ∃ d, d = numAt s.toList A := ⟨_, rfl⟩
        rw [← hde] at CN hd hst
        obtain ⟨E, hE⟩ : ∃ E : Nat, (A2 : Int) + (d : Int) = (E : Int) := ⟨A2 + d, by omega⟩
        by_cases c2 : s.size < E
        · have HE : Hid (unpB s.toList = none) := by
            unfold Hid; rw [HU.out, KM.out, hst, if_pos (Or.inr (by omega))]; rfl
          have c2z : (s.size : Int) < E := by omega
          clear hst hj HJ c1 c2 hde
          go_wp2_with fail
          refine (CN _).mono ?_
          rintro e w3 ⟨rfl, hb3⟩
          have K3 : Hid (Below w.heap.size w w3) := bel K.out hb3
          clear hb3 CN
          go_wp2_with fail
          go_ret2
          exact ⟨_, by rw [HE.out]; rfl, (fun l hl => by rw [HE.out] at hl; cases hl), ⟨_, _, _, rfl⟩, K3.out⟩
        · have c2z : ¬ (s.size : Int) < E := by omega
          have hEz : (E : Int) ≤ s.size := by omega
          have hA2E : A2 ≤ E := by omega
          have hA2Ez : (A2 : Int) ≤ E := by omega
          have hEs : E ≤ s.size := by omega
          obtain ⟨Y, hY⟩ : ∃ Y, s.extract A2 E = Y := ⟨_, rfl⟩
          have hYm : Y.size ≤ maxLen := by rw [← hY, size_extract s A2 E hEs]; omega
          have hYl : (List.drop 2 (s.toList.drop A)).take d = Y.toList := by
            rw [← hY, list_extract, List.drop_drop, List.drop_take, show A + 2 = A2 by omega, show E - A2 = d by omega]
          have hDE : (s.toList.drop A).drop (2 + d) = s.toList.drop E := by rw [List.drop_drop, show A + (2 + d) = E by omega]
          rw [if_neg (by omega), hYl, hDE] at hst
          have CD := fun W => decode_ref Y W hYm
          have HDL2 : Hid (done.length ≤ 400) := by unfold Hid; have := HDL.out; omega
          cases hdb : decB Y.toList with
          | none =>
            have HE : Hid (unpB s.toList = none) := by
              unfold Hid; rw [HU.out, KM.out, hst, hdb]; rfl
            rw [hdb] at CD
            simp only [Option.isSome_none, Option.getD_none] at CD
            clear hst hj HJ c1 c2 hde hYl hDE hdb
            go_wp2_with fail
            refine (CN _).mono ?_
            rintro e w3 ⟨rfl, hb3⟩
            have K3 : Hid (Below w.heap.size w w3) := bel K.out hb3
            clear hb3
            go_wp2_with fail
            refine (CN _).mono ?_
            rintro e w4 ⟨rfl, hb4⟩
            have K4 : Hid (Below w.heap.size w w4) := bel K3.out hb4
            clear hb4 CN
            go_wp2_with fail
            refine (CD _).mono ?_
            rintro e w5 ⟨u, rfl, hu, hb5⟩
            obtain ⟨vs, rfl, hvd⟩ := hu.now
            obtain ⟨pv, nv, cv, rfl⟩ : ∃ pv nv cv, vs = .slice pv nv cv := by
              obtain ⟨_, _, e9, _⟩ := hvd
              exact ⟨_, _, _, e9⟩
            unfold opV oz
            simp only
            have K5 : Hid (∀ O, Below w.heap.size w (w5.alloc O)) := fun O => (bel K4.out hb5).alloc (bel K4.out hb5).size O
            clear hb5 CD hu
            go_wp2_with fail
            go_ret2
            exact ⟨_, by rw [HE.out]; rfl, (fun l hl => by rw [HE.out] at hl; cases hl), ⟨_, _, _, rfl⟩, K5.out _⟩
          | some x =>
            have KM2 : Hid (∀ u : Value, manyB n (s.toList.drop 2) = (manyB (n - (k + 1)) (s.toList.drop E)).map fun q => ((done ++ [(x, u)]).map (·.1) ++ q.1, q.2)) := by
              intro u
              rw [KM.out, hst, hdb, HJ.out]
              cases manyB j (s.toList.drop E) with
              | none => rfl
              | some q => simp
            rw [hdb] at CD
            simp only [Option.isSome_some, Option.getD_some] at CD
            clear hst hj HJ c1 c2 hde hYl hDE hdb KM
            go_wp2_with fail
            refine (CN _).mono ?_
            rintro e w3 ⟨rfl, hb3⟩
            have K3 : Hid (Below w.heap.size w w3) := bel K.out hb3
            have KX3 : Hid (Below wr.heap.size wr w3) := hb3
            clear hb3
            go_wp2_with fail
            refine (CN _).mono ?_
            rintro e w4 ⟨rfl, hb4⟩
            have K4 : Hid (Below w.heap.size w w4) := bel K3.out hb4
            have KX4 : Hid (Below wr.heap.size wr w4) := bel KX3.out hb4
            clear hb4 CN KX3 K3
            go_wp2_with fail
            refine (CD _).mono ?_
            rintro e w5 ⟨u, rfl, hu, hb5⟩
            obtain ⟨vs, he, hvd⟩ := hu.now
            subst he
            have K5 : Hid (Below w.heap.size w w5) := bel K4.out hb5
            have KX5 : Hid (Below wr.heap.size wr w5) := bel KX4.out hb5
            have HAP : Hid (Apart w.heap.size w5 (.slice p0 n0 c0) (x, vs)) := apart_new K4.out.size hu (fun g hg => Nat.lt_of_lt_of_le (KW.out.lt g hg).2 KX4.out.size)
            have KA5 : Hid (∀ y ∈ done, Apart w.heap.size w5 (.slice p0 n0 c0) y) := fun y hy => (KA.out y hy).below KX5.out
            have KW5 : Hid (w5.ownsRow w.heap.size 30 6 (.slice p0 n0 c0) done.length (flatO done)) := own_below KW.out KX5.out
            have hvo : Hid (vs.oneCell' = true) := by
              obtain ⟨_, _, e9, _⟩ := hvd
              rw [e9]; rfl
            obtain ⟨⟨xa, xb⟩, xt, xp, xc, xs⟩ := x
            unfold opV
            simp only
            obtain ⟨pv, nv, cv, rfl⟩ : ∃ pv nv cv, vs = .slice pv nv cv := by
              obtain ⟨_, _, e9, _⟩ := hvd
              exact ⟨_, _, _, e9⟩
            have HBX : Hid (∀ O1, Below w5.heap.size w5 (w5.alloc O1)) := fun O1 => (Below.refl _ _).alloc (Nat.le_refl _) O1
            have HB6 : Hid (∀ O1 O2, Below w5.heap.size w5 ((w5.alloc O1).alloc O2)) := fun O1 O2 => ((Below.refl _ _).alloc (Nat.le_refl _) O1).alloc (by simp) O2
            have HN6 : Hid (∀ O1, ∀ j y, (flatO [(((xa, xb), xt, xp, xc, xs), Value.slice pv nv cv)])[j]? = some y → ((w5.alloc O1).alloc (.cells #[.int .i64 xa, .int .i64 xb, .int .i64 xt, .string xp, .int .i64 xc, .slice pv nv cv] 30)).cell? ((⟨w5.heap.size + 1, 0, none⟩ : Addr).add j) = some y) := by
              intro O1
              have := op_new (w5.alloc O1) ((xa, xb), xt, xp, xc, xs) (.slice pv nv cv) 30
              rwa [show (w5.alloc O1).heap.size = w5.heap.size + 1 by simp] at this
            have HSZ : Hid (∀ O1 O2, w.heap.size ≤ ((w5.alloc O1).alloc O2).heap.size) := fun O1 O2 => by have := K5.out.size; simp; omega
            have hcap1 : done.length + 1 ≤ maxLen := by have := HDL2.out; unfold maxLen; omega
            have hcap2 : (done.length + 1) * 72 ≤ 140737488355328 := by have := HDL2.out; omega
            clear hb5 CD hu hvd
            go_wp2_with (at_builtin; refine wpList_append_own_at _ rfl (.tmp 59) (.tmp 61) 22 rfl w.heap.size 30 i0 (.agg #[.int .i64 0, .int .i64 0, .int .i64 0, .string ⟨#[]⟩, .int .i64 0, .slice none 0 0]) 6 72 Tryz.underlying22 hi hz0 hz1 hzz2 rfl (by decide) (.slice p0 n0 c0) done.length (flatO done) rfl ((KW5.out.alloc _).alloc _) ⟨w5.heap.size + 1, 0, none⟩ 1 1 (flatO [(((xa, xb), xt, xp, xc, xs), Value.slice pv nv cv)]) rfl rfl (HN6.out _) (flatO_one _ _ hvo.out) hcap1 hcap2 (HSZ.out _ _) ?_; intro v9 w9 hown9 hgrow9 _ hat9; have KW9 : Hid (w9.ownsRow w.heap.size 30 6 v9 (done ++ [(((xa, xb), xt, xp, xc, xs), Value.slice pv nv cv)]).length (flatO (done ++ [(((xa, xb), xt, xp, xc, xs), Value.slice pv nv cv)]))) := own_appO rfl rfl hown9; have K9 : Hid (Below w.heap.size w w9) := own_grow KW5.out ((K5.out.alloc K5.out.size _).alloc (by have := K5.out.size; simp; omega) _) hgrow9 (HSZ.out _ _); have KA9 : Hid (∀ y ∈ done ++ [(((xa, xb), xt, xp, xc, xs), Value.slice pv nv cv)], Apart w.heap.size w9 v9 y) := (fun y hy => by (rcases List.mem_append.1 hy with hy | hy); (exact ((KA5.out y hy).below (HB6.out _ _)).grown hgrow9 hat9); (rw [List.mem_singleton.1 hy]; exact (HAP.out.below (HB6.out _ _)).grown hgrow9 hat9)); obtain ⟨p9, N9, c9, hv9, _⟩ := own_shape KW9.out; subst hv9; clear hown9 hgrow9 hat9)
            go_roundw
            case rel => exact ⟨k + 1, E, done ++ [(((xa, xb), xt, xp, xc, xs), Value.slice pv nv cv)], by omega, by go_num, rfl, by omega, by omega, ⟨_, _, _, rfl⟩, by unfold Hid; rw [List.length_append, HDL.out]; rfl, KW9, KA9, KM2.out _, K9⟩
            case measure => simp [intOf]; omega
    · obtain rfl : n = k := by omega
      have hltz : ¬ (n : Int) < n := by omega
      have HM : Hid (manyB n (s.toList.drop 2) = some (done.map (·.1), s.toList.drop A)) := by
        have h9 := KM.out
        rw [Nat.sub_self] at h9
        unfold Hid; rw [h9]; unfold manyB; simp
      by_cases hAe : A = s.size
      · have HE : Hid (unpB s.toList = some (done.map (·.1))) := by
          unfold Hid; rw [HU.out, HM.out, List.drop_of_length_le (by rw [Om.len_eq]; omega)]
        have hAb : ((A : Int) == (s.size : Int)) = true := by rw [hAe]; simp
        have KO : Hid (∀ W : World, (∀ k, w.heap.size ≤ k → k < wr.heap.size → W.heap[k]? = wr.heap[k]?) → OpsAt W (.slice p0 n0 c0) (done.map (·.1))) := fun W hW => own_ops (own_same KW.out hW) (fun y hy => (KA.out y hy).kept hW)
        clear hAe
        go_wp2_with fail
        go_ret2
        exact ⟨_, by rw [HE.out]; rfl, (fun l hl => by rw [HE.out] at hl; injection hl with hl; subst hl; exact KO.out), ⟨_, _, _, rfl⟩, K.out⟩
      · have HE : Hid (unpB s.toList = none) := by
          unfold Hid; rw [HU.out, HM.out]
          cases hdr : s.toList.drop A with
          | nil => have := congrArg List.length hdr; rw [List.length_drop, Om.len_eq] at this; simp at this; omega
          | cons y r => rfl
        have hAb : ((A : Int) == (s.size : Int)) = false := by simp; omega
        clear hAe
        go_wp2_with fail
        go_ret2
        exact ⟨_, by rw [HE.out]; rfl, (fun l hl => by rw [HE.out] at hl; cases hl), ⟨_, _, _, rfl⟩, K.out⟩
end Ok
end Go.Proofs.YtpoijhfojdmdpaaGreatDoor
