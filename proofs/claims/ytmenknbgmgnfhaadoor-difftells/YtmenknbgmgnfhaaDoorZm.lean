/- Package diff: Turn. -/
import Derived.Test.YtmenknbgmgnfhaaDoorZj
namespace Go.Proofs.YtmenknbgmgnfhaaDoor
namespace Zm
set_option linter.unusedVariables false
set_option linter.unusedSimpArgs false
open Go.ChangeShapes Go.WideShapes Go.ChangeAt Go.RowKit Ka Kb Zb Zc Zd Ze Zf Zg Zh Zi Zj

structure Tr (A : List UInt8) (l : List Fr) (k : Nat) (F : ByteArray) (T : List Fr) : Prop where
  eq : turn A (eds l) = eds T ++ turn F.toList (eds (l.drop k))
  len : T.length = k
  ok : (run F.toList (eds (l.drop k))).isSome = true
  sz : F.size ≤ 200
  ws : ∀ x ∈ T, x.2.2.size ≤ 200
theorem Tr.start {a : ByteArray} {l : List Fr} (ha : a.size ≤ 200) (h : (run a.toList (eds l)).isSome = true) : Tr a.toList l 0 a [] :=
  ⟨rfl, rfl, h, ha, fun x hx => by cases hx⟩
theorem Tr.next {A : List UInt8} {l : List Fr} {k : Nat} {F : ByteArray} {T : List Fr} (h : Tr A l k F T) (hk : k < l.length) : ∃ (kk tt : Nat) (d : ByteArray), l.getD k fz = ((kk : Int), (tt : Int), d) ∧ kk + tt ≤ F.size ∧ Tr A l (k + 1) (F.extract (kk + tt) F.size) (T ++ [((kk : Int), (d.size : Int), F.extract kk (kk + tt))]) := by
  have hok := h.ok
  rw [eds_at hk] at hok
  have hnb : ¬ Zc.bad F.toList (ed (l.getD k fz)) := fun hb => by rw [run_bad hb] at hok; cases hok
  obtain ⟨kk, tt, e1, e2, e3⟩ := nb hnb
  rw [run_ok hnb] at hok
  obtain ⟨x, hx⟩ : ∃ x, l.getD k fz = x := ⟨_, rfl⟩
  rw [hx] at e1 e2 hok hnb
  obtain ⟨xk, xt, d⟩ := x
  have f1 : xk = (kk : Int) := e1
  have f2 : xt = (tt : Int) := e2
  subst f1 f2
  rw [Kb.len_eq] at e3
  have hF := h.sz
  have hr : rest F.toList (ed ((kk : Int), (tt : Int), d)) = F.toList.drop (kk + tt) := rfl
  refine ⟨kk, tt, d, hx, e3, ⟨?_, by simp [h.len], ?_, by rw [size_extract _ _ _ (Nat.le_refl _)]; omega, ?_⟩⟩
  · rw [h.eq, eds_at hk, hx, turn, hr, list_rest]
    simp only [eds, List.map_append, List.map_cons, List.map_nil, List.append_assoc, List.singleton_append]
    congr 2
    unfold ed
    simp only [Int.toNat_natCast, Kb.len_eq, list_extract]
    rw [List.drop_take, show kk + tt - kk = tt by omega]
  · rw [list_rest, ← hr]
    simpa using hok
  · intro x hx
    rcases List.mem_append.1 hx with e | e
    · exact h.ws x e
    · rw [List.mem_singleton.1 e]
      show (F.extract kk (kk + tt)).size ≤ 200
      rw [size_extract _ _ _ e3]; omega
theorem Tr.done {A : List UInt8} {l : List Fr} {k : Nat} {F : ByteArray} {T : List Fr} (h : Tr A l k F T) (hk : l.length ≤ k) : eds T = turn A (eds l) := by
  rw [h.eq, List.drop_eq_nil_of_le hk]; exact (List.append_nil _).symm
/- a row that is filled, edit by edit -/
structure Fil (w : World) (g n : Nat) (T : List Fr) (wr : World) : Prop where
  bel : Below w.heap.size w wr
  old : w.heap.size ≤ g
  row : ∃ cs : Array Value, wr.heap[g]? = some (.cells cs 43) ∧ cs.size = n * 3 ∧ cs.toList.take (T.length * 3) = flatF T
theorem Fil.start {w w0 w1 : World} {n : Nat} {xs : List Value} (hg : w.heap.size ≤ w0.heap.size) (h : w1.ownsRow w.heap.size 43 3 (.slice (some ⟨w0.heap.size, 0, none⟩) n n) n xs) (hb : Below w.heap.size w w1) : Fil w w0.heap.size n [] w1 := by
  rcases h.2 with ⟨e, _⟩ | ⟨g', cap', cur, e, _, h2, h3, h4, h5, h6⟩
  · cases e
  · injection e with e1 e2 e3
    injection e1 with e1
    injection e1 with e1
    subst e1 e3
    exact ⟨hb, hg, cur, h2, h5, rfl⟩
theorem Fil.below {w wr w2 : World} {g n : Nat} {T : List Fr} (h : Fil w g n T wr) (hb : Below wr.heap.size wr w2) : Fil w g n T w2 := by
  obtain ⟨h1, h2, cs, h3, h4⟩ := h
  exact ⟨Zd.bel h1 hb, h2, cs, by rw [hb.block g (Array.getElem?_eq_some_iff.1 h3).1]; exact h3, h4⟩
theorem Fil.cell {w wr : World} {g n : Nat} {T : List Fr} (h : Fil w g n T wr) (hn : T.length < n) : (∃ u, wr.cell? ⟨g, T.length * 3, none⟩ = some u) ∧ (∃ u, wr.cell? ⟨g, T.length * 3 + 1, none⟩ = some u) ∧ (∃ u, wr.cell? ⟨g, T.length * 3 + 2, none⟩ = some u) ∧ ∀ i, wr.frozen? ⟨g, i, none⟩ = false := by
  obtain ⟨h1, h2, cs, h3, h4, h5⟩ := h
  have key : ∀ i, i < n * 3 → ∃ u, wr.cell? ⟨g, i, none⟩ = some u := fun i hi => ⟨cs[i]'(by omega), blk_cell h3 (by simp [h4, hi])⟩
  exact ⟨key _ (by omega), key _ (by omega), key _ (by omega), fun i => blk_free h3⟩
theorem Fil.put {w wr : World} {g n k : Nat} {T : List Fr} (h : Fil w g n T wr) (hk : T.length = k) (hn : k < n) (x : Fr) : Fil w g n (T ++ [x]) (((wr.setCell ⟨g, k * 3, none⟩ (.int .i64 x.1)).setCell ⟨g, k * 3 + 1, none⟩ (.int .i64 x.2.1)).setCell ⟨g, k * 3 + 2, none⟩ (.string x.2.2)) := by
  obtain ⟨h1, h2, cs, h3, h4, h5⟩ := h
  refine ⟨((h1.setCell (p := ⟨g, k * 3, none⟩) h2 _).setCell (p := ⟨g, k * 3 + 1, none⟩) h2 _).setCell (p := ⟨g, k * 3 + 2, none⟩) h2 _, h2, _, set_heap (set_heap (set_heap h3)), by simpa using h4, ?_⟩
  have hf : flatF (T ++ [x]) = flatF T ++ [.int .i64 x.1, .int .i64 x.2.1, .string x.2.2] := by rw [flatF_append]; rfl
  have hfl : (flatF T).length = k * 3 := by rw [flatF_length, hk]
  rw [hf, List.length_append, hk]
  rw [hk] at h5
  apply List.ext_getElem?
  intro i
  rw [List.getElem?_take]
  by_cases hi : i < (k + [x].length) * 3
  · have hi2 : i < (k + 1) * 3 := hi
    rw [if_pos hi, Array.getElem?_toList]
    simp only [Array.getElem?_setIfInBounds]
    by_cases e2 : k * 3 + 2 = i
    · subst e2
      rw [if_pos rfl, if_pos (by simp [h4]; omega), List.getElem?_append_right (by omega), hfl, show k * 3 + 2 - k * 3 = 2 by omega]; rfl
    · rw [if_neg e2]
      by_cases e1 : k * 3 + 1 = i
      · subst e1
        rw [if_pos rfl, if_pos (by simp [h4]; omega), List.getElem?_append_right (by omega), hfl, show k * 3 + 1 - k * 3 = 1 by omega]; rfl
      · rw [if_neg e1]
        by_cases e0 : k * 3 = i
        · subst e0
          rw [if_pos rfl, if_pos (by omega), List.getElem?_append_right (by omega), hfl, Nat.sub_self]; rfl
        · rw [if_neg e0, List.getElem?_append_left (by omega), ← h5, List.getElem?_take, if_pos (by omega), Array.getElem?_toList]
  · have hi2 : ¬ i < (k + 1) * 3 := hi
    rw [if_neg hi, List.getElem?_eq_none]
    rw [List.length_append, hfl]
    show k * 3 + 3 ≤ i
    omega
theorem set3 {W : World} {g b i : Nat} (h : b ≠ g) (o1 o2 o3 : Nat) (x y z : Value) : (((W.setCell ⟨g, o1, none⟩ x).setCell ⟨g, o2, none⟩ y).setCell ⟨g, o3, none⟩ z).cell? ⟨b, i, none⟩ = W.cell? ⟨b, i, none⟩ :=
  (cell_stay (set_block _ _ _ _ h)).trans ((cell_stay (set_block _ _ _ _ h)).trans (cell_stay (set_block _ _ _ _ h)))
theorem Fil.done {w wr : World} {g n : Nat} {T : List Fr} (h : Fil w g n T wr) (hn : T.length = n) (hm : n ≤ maxLen) : RowF w.heap.size wr (.slice (some ⟨g, 0, none⟩) n n) T := by
  obtain ⟨h1, h2, cs, h3, h4, h5⟩ := h
  refine ⟨by rw [flatF_length], Or.inr ⟨g, n, cs, by rw [hn], h2, h3, by rw [hn]; exact Nat.le_refl _, hm, h4, h5⟩⟩

theorem turn_no (a : ByteArray) (R : Nat → Prop) (v : Value) (l : List Fr) (w : World) (h : FrsJ R w v l) (ha : a.size ≤ maxLen) (hz : ∀ x ∈ l, x.2.2.size ≤ 140737488355328) (hE : appE a.toList (eds l) ≠ 0) :
    Calls Tryd.prog 10 #[.string a, v] w fun e w' => e = .returned (.tuple #[.slice none 0 0, errV (appE a.toList (eds l))]) ∧ Hid (Below w.heap.size w w') := by
  have C := apply_any a R v l w h ha hz
  rw [errV_ne hE] at C ⊢
  generalize appE a.toList (eds l) = E at *
  obtain ⟨p, c, rfl, _⟩ := h
  clear hz ha hE
  go_enter Tryd.func10, Tryd.ntmps10
  go_wp2_with fail
  refine C.mono ?_
  rintro e w1 ⟨rfl, HB⟩
  clear C
  go_wp2_with fail
  go_ret2
  exact ⟨rfl, HB.out⟩
set_option maxRecDepth 100000 in
set_option maxHeartbeats 4000000 in
theorem turn_yes (a : ByteArray) (R : Nat → Prop) (v : Value) (l : List Fr) (w : World) (h : FrsJ R w v l) (ha : a.size ≤ 200) (hl2 : l.length ≤ 200) (hz : ∀ x ∈ l, x.2.2.size ≤ 140737488355328) (hE : appE a.toList (eds l) = 0) (hrun : (run a.toList (eds l)).isSome = true) :
    Calls Tryd.prog 10 #[.string a, v] w fun e w' => ∃ v' T, e = .returned (.tuple #[v', .nilIface]) ∧ Hid (RowF w.heap.size w' v' T) ∧ Hid (eds T = turn a.toList (eds l)) ∧ Hid (∀ x ∈ T, x.2.2.size ≤ 200) ∧ Hid (Below w.heap.size w w') := by
  have C := apply_any a R v l w h (by unfold maxLen; omega) hz
  rw [hE, errV_zero] at C
  generalize bs (appR a.toList (eds l)) = RR at C
  obtain ⟨p, c, rfl, hk, hc1, hc2, _⟩ := h
  obtain ⟨n, hl⟩ : ∃ n, l.length = n := ⟨_, rfl⟩
  rw [hl] at hc1 hl2 C ⊢
  have HL : Hid (l.length = n) := hl
  have HZ : Hid (∀ x ∈ l, x.2.2.size ≤ 140737488355328) := hz
  have HK : Hid (FrsK R w p l) := hk
  have HRUN : Hid ((run a.toList (eds l)).isSome = true) := hrun
  obtain ⟨i0, hi0, hz0, hz1, hz2⟩ := info_parts infoF
  unfold maxLen at hc2
  clear hl hz hk hE hrun
  go_enter Tryd.func10, Tryd.ntmps10
  go_wp2_with fail
  refine C.mono ?_
  rintro e w1 ⟨rfl, HB1⟩
  clear C
  have hs1 : w.heap.size ≤ w1.heap.size := HB1.out.size
  go_wp2_with (at_make; refine wpList_make_full _ rfl (.tmp 26) (.tmp 26) 22 rfl w.heap.size 43 i0 (.agg #[.int .i64 0, .int .i64 0, .string ⟨#[]⟩]) 3 Tryd.underlying22 hi0 hz0 hz1 .i64 .i64 n n n rfl rfl rfl rfl (by rw [hz2]; omega) (by unfold maxLen; omega) hs1 ?_; intro w2 hown hgrow; have HF : Hid (Fil w w1.heap.size n [] w2) := Fil.start hs1 hown (bel HB1.out ((Below.refl _ w1).grown hgrow (Nat.le_refl _) (fun k hk => by cases hk))); clear hown hgrow)
  go_loopw [9, 10, 11, 12, 13, 14, 15, 31] (fun s9 _ _ _ _ _ _ s31 wr => ∃ (k : Nat) (F : ByteArray) (T : List Fr), k ≤ n ∧ s31 = .int .i64 k ∧ s9 = .string F ∧ Hid (Tr a.toList l k F T) ∧ Hid (Fil w w1.heap.size n T wr)) (fun _ _ _ _ _ _ _ s31 _ => n - (intOf s31).toNat)
  case atStart => exact ⟨0, a, [], Nat.zero_le _, rfl, rfl, Tr.start ha HRUN.out, HF⟩
  case round =>
    clear HF
    obtain ⟨k, F, T, hkn, rfl, rfl, HT, HF⟩ := hrel
    have hFs : F.size ≤ 200 := HT.out.sz
    by_cases hlt : k < n
    · have hltz : (k : Int) < n := by omega
      have HB : Hid (Below w.heap.size w wr) := HF.out.bel
      obtain ⟨b, o, rfl, _, hc⟩ := HK.out.some (by intro e; have := HL.out; rw [e] at this; simp at this; omega)
      obtain ⟨e1, e2, e3⟩ := hc k (by rw [HL.out]; exact hlt)
      have d1 := keep_cell HB.out e1
      have d2 := keep_cell HB.out e2
      have d3 := keep_cell HB.out e3
      have hsz := HZ.out _ (getD_mem (l := l) (k := k) (by rw [HL.out]; exact hlt))
      obtain ⟨kk, tt, dd, hx, hkt, hT2⟩ := HT.out.next (by rw [HL.out]; exact hlt)
      rw [hx] at d1 d2 d3 hsz
      dsimp only at d1 d2 d3 hsz
      have HT2 : Hid (Tr a.toList l (k + 1) (F.extract (kk + tt) F.size) (T ++ [((kk : Int), (dd.size : Int), F.extract kk (kk + tt))])) := hT2
      have CC : Hid (∀ W, Calls Tryd.prog 17 #[.string F, .agg #[.int .i64 kk, .int .i64 tt, .string dd]] W fun e w' => e = .returned (.tuple #[.string (F.extract 0 kk), .string (F.extract kk (kk + tt)), .string (F.extract (kk + tt) F.size), .nilIface]) ∧ Below W.heap.size W w') := fun W => cut_yes F dd kk tt W (by omega) hkt
      obtain ⟨X, hX⟩ : ∃ X, X = F.extract 0 kk := ⟨_, rfl⟩
      obtain ⟨Y, hY⟩ : ∃ Y, Y = F.extract kk (kk + tt) := ⟨_, rfl⟩
      obtain ⟨Z, hZ⟩ : ∃ Z, Z = F.extract (kk + tt) F.size := ⟨_, rfl⟩
      have hYs : Y.size ≤ 200 := by rw [hY, size_extract _ _ _ hkt]; omega
      rw [← hX, ← hY, ← hZ] at CC
      rw [← hY, ← hZ] at HT2
      have HCL : Hid (∀ W, Calls Tryd.prog 15 #[.string Y] W fun e w' => ∃ v, e = .returned v ∧ v = .string Y ∧ Below W.heap.size W w') := fun W => (clone_any Y W (by omega)).mono (by rintro e w' ⟨rfl, h9⟩; exact ⟨_, rfl, rfl, h9⟩)
      have hB0 : Below wr.heap.size wr (wr.alloc (.cells #[.int .i64 kk, .int .i64 tt, .string dd] 43)) := (Below.refl _ wr).alloc (Nat.le_refl _) _
      have hA0 := heap_alloc_new wr (.cells #[.int .i64 kk, .int .i64 tt, .string dd] 43)
      have hG := HF.out.row
      have HGL : Hid (w1.heap.size < wr.heap.size) := by obtain ⟨cs, h1, _⟩ := hG; exact (Array.getElem?_eq_some_iff.1 h1).1
      have HNE : Hid (wr.heap.size ≠ w1.heap.size) := by have := HGL.out; unfold Hid; omega
      clear e1 e2 e3 hc hx hT2 hX hY hZ hG HT
      go_upto_region 9 with fail
      generalize wr.alloc (.cells #[.int .i64 kk, .int .i64 tt, .string dd] 43) = w0 at hB0 hA0 ⊢
      have HB0 : Hid (Below wr.heap.size wr w0) := hB0
      have HY : Hid (∀ W, Below w0.heap.size w0 W → W.cell? ⟨wr.heap.size, 0, none⟩ = some (.int .i64 kk) ∧ W.cell? ⟨wr.heap.size, 2, none⟩ = some (.string dd)) := fun W hb => ⟨keep_cell hb (blk_cell hA0 (i := 0) rfl), keep_cell hb (blk_cell hA0 (i := 2) (u := .string dd) rfl)⟩
      have y0 := blk_cell hA0 (i := 0) (u := .int .i64 kk) rfl
      have y1 := blk_cell hA0 (i := 1) (u := .int .i64 tt) rfl
      have y2 := blk_cell hA0 (i := 2) (u := .string dd) rfl
      clear hB0 hA0
      go_wp2_with fail
      refine (CC.out w0).mono ?_
      rintro e w3 ⟨rfl, hb3⟩
      have HB3 : Hid (Below wr.heap.size wr w3) := bel HB0.out hb3
      have HY3 : Hid (∀ W, Below w3.heap.size w3 W → W.cell? ⟨wr.heap.size, 0, none⟩ = some (.int .i64 kk) ∧ W.cell? ⟨wr.heap.size, 2, none⟩ = some (.string dd)) := fun W hb => HY.out W (bel hb3 hb)
      clear hb3 CC y0 y1 y2 d1 d2 d3
      obtain ⟨y0, y2⟩ := HY3.out w3 (Below.refl _ _)
      go_wp2_with fail
      go_cut [10] (fun _ wx => Hid (Fil w w1.heap.size n (T ++ [((kk : Int), (dd.size : Int), Y)]) wx))
      case first =>
        go_region_held3 (fun W => W.cell? ⟨wr.heap.size, 0, none⟩ = some (.int .i64 kk) ∧ W.cell? ⟨wr.heap.size, 2, none⟩ = some (.string dd)) (first | (go_keep; done) | (refine ⟨keep_cell hb9 ?_, keep_cell hb9 ?_⟩ <;> (first | assumption | (go_split_ands; assumption))) | (refine ⟨(set3 HNE.out _ _ _ _ _ _).trans ?_, (set3 HNE.out _ _ _ _ _ _).trans ?_⟩ <;> (first | assumption | (go_split_ands; assumption)))) (first
          | (refine step_call1 (R := fun v w' => v = .string Y ∧ Below w3.drew.heap.size w3.drew w') (by rfl) 15 (.tmp 51) _ (by rfl) (.string Y) (by rfl) enter_clone (HCL.out _) ?_; rintro v9 w9 ⟨rfl, hb9⟩; have HF9 : Hid (Fil w w1.heap.size n T w9) := (HF.out.below HB3.out).below (Zd.bel (Below.refl _ w3).drew hb9); have HTL : Hid (T.length = k) := (by have := HT2.out.len; rw [List.length_append] at this; exact Nat.add_right_cancel this); obtain ⟨⟨u0, q0⟩, ⟨u1, q1⟩, ⟨u2, q2⟩, q3⟩ := HF9.out.cell (by rw [HTL.out]; exact hlt); rw [HTL.out] at q0 q1 q2; have r0 := q3 (k * 3); have r1 := q3 (k * 3 + 1); have r2 := q3 (k * 3 + 2); obtain ⟨x0, x2⟩ := HY3.out w9 (Zd.bel (Below.refl _ w3).drew hb9)))
        all_goals
          go_wp2_with fail
          go_meet
          case rel => exact HF9.out.put HTL.out hlt ((kk : Int), (dd.size : Int), Y)
      case rest =>
        have HF4 := hcut
        clear hcut
        go_wp2_with fail
        go_roundw
        case rel => exact ⟨k + 1, Z, _, by omega, by go_num, rfl, HT2, HF4⟩
        case measure => simp [intOf]; omega
    · have hltz : ¬ (k : Int) < n := by omega
      go_wp2_with fail
      go_ret2
      refine ⟨.slice (some ⟨w1.heap.size, 0, none⟩) n n, rfl, T, ?_, ?_, ?_, ?_⟩
      · exact HF.out.done (by rw [HT.out.len]; omega) (by unfold maxLen; omega)
      · exact HT.out.done (by rw [HL.out]; omega)
      · exact fun x1 x2 x3 hx => HT.out.ws (x1, x2, x3) hx
      · exact HF.out.bel

end Zm
end Go.Proofs.YtmenknbgmgnfhaaDoor
