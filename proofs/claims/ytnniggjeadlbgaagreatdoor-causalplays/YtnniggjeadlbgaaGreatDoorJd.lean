/- What Waits answers: the dots of those that wait, sorted. -/
import Derived.Test.YtnniggjeadlbgaaGreatDoorJc
import Derived.Test.YtnniggjeadlbgaaGreatDoorJ4
import Derived.Test.YtnniggjeadlbgaaGreatDoorSo
namespace Go.Proofs.YtnniggjeadlbgaaGreatDoor
namespace Jd
set_option linter.unusedVariables false
set_option linter.unusedSimpArgs false
open Go.ChangeShapes Go.WideShapes Go.ChangeAt Go.RowKit Go.MapKept Go.Shelf Cm Ka Kb Na Nb Nc Om Oa Oz Oc Og Oi Hm Ia Ja Jb Jc
open Ic (blk_cell blk_free)
open Go.Sort (grow grow_grow alloc_eq_grow heap_grow_old)
open La (bel bel_drew errV_zero errV_ne own_ge own_grow own_below Lies)

theorem three_grow (w : World) (O1 O2 O3 : Obj) : ∃ q os, (((w.alloc O1).alloc O2).alloc O3).drew = grow (w.drewN q) os := by
  refine ⟨1, #[O1, O2, O3], ?_⟩
  rw [alloc_eq_grow, alloc_eq_grow, alloc_eq_grow, grow_grow, grow_grow]
  rfl
set_option maxHeartbeats 1000000 in
theorem order_lays (a1 a2 b1 b2 : Int) (w : World) :
    Calls Tryz.prog 81 #[.agg #[.int .i64 a1, .int .i64 a2], .agg #[.int .i64 b1, .int .i64 b2]] w fun e w' => e = .returned (.int .i64 (dcmp (a1, a2) (b1, b2))) ∧ ∃ q os, w' = grow (w.drewN q) os := by
  have HD : Hid (dcmp (a1, a2) (b1, b2) = or2 (icmp a1 b1) (icmp a2 b2)) := rfl
  have HB : Hid (∀ O1 O2 O3, ∃ q os, (((w.alloc O1).alloc O2).alloc O3).drew = grow (w.drewN q) os) := fun O1 O2 O3 => three_grow w O1 O2 O3
  rw [HD.out]
  clear HD
  go_enter Tryz.func81, Tryz.ntmps81
  go_wp2_with fail
  go_region_held3 (fun W => W.cell? ⟨w.heap.size, 0, none⟩ = some (.int .i64 a1) ∧ W.cell? ⟨w.heap.size, 1, none⟩ = some (.int .i64 a2) ∧ W.cell? ⟨w.heap.size + 1, 0, none⟩ = some (.int .i64 b1) ∧ W.cell? ⟨w.heap.size + 1, 1, none⟩ = some (.int .i64 b2)) (go_keep) (first
    | (go_at_call 120; refine (icompare_any _ _ _).mono ?_; rintro e w7 ⟨rfl, hw⟩; have hw2 := hw.symm; subst hw2; clear hw)
    | (go_at_call 119; refine (or_laid (icmp a1 b1) (icmp a2 b2) _ _ _ ?_).mono ?_; (simp); rintro e w7 ⟨rfl, hw⟩; have hw2 := hw.symm; subst hw2; clear hw))
  all_goals
    go_wp2_with fail
    go_ret
    exact ⟨rfl, HB.out _ _ _⟩

theorem lt_eq (x y : Dt) : ltOf dcmp x y = dlt x y := by
  unfold ltOf
  rw [Bool.eq_iff_iff, decide_eq_true_eq]
  exact dcmp_lt
theorem dle_eq : (fun x y : Dt => !(ltOf dcmp) y x) = dle := by
  funext x y
  rw [lt_eq]; rfl
theorem dlt_swo : Go.Sort.SWO (ltOf dcmp) where
  irrefl x := by rw [lt_eq]; simp [dlt]
  trans x y z h1 h2 := by rw [lt_eq] at *; simp [dlt] at *; omega
  ntrans x y z h1 h2 := by rw [lt_eq] at *; simp [dlt] at *; omega
theorem dlt_whole (x y : Dt) (h1 : ltOf dcmp x y = false) (h2 : ltOf dcmp y x = false) : x = y := by
  rw [lt_eq] at h1 h2
  simp [dlt] at h1 h2
  exact Prod.ext (by omega) (by omega)
theorem dle_trans (a b c : Dt) (h1 : dle a b = true) (h2 : dle b c = true) : dle a c = true := by
  simp [dle, dlt] at *; omega
theorem dle_total (a b : Dt) : (dle a b || dle b a) = true := by
  simp [dle, dlt]; omega
theorem dle_anti (a b : Dt) (h1 : dle a b = true) (h2 : dle b a = true) : a = b := by
  simp [dle, dlt] at h1 h2
  exact Prod.ext (by omega) (by omega)
theorem sort_perm {l l' : List Dt} (h : l.Perm l') : l.mergeSort dle = l'.mergeSort dle :=
  List.Perm.eq_of_pairwise (le := fun a b => dle a b = true) (fun a b _ _ h1 h2 => dle_anti a b h1 h2) (List.pairwise_mergeSort dle_trans dle_total l) (List.pairwise_mergeSort dle_trans dle_total l') (((List.mergeSort_perm l dle).trans h).trans (List.mergeSort_perm l' dle).symm)
theorem sort_uniq {l l' : List Dt} (h : l'.Perm l) (hs : l'.Pairwise fun a b => dle a b = true) : l' = l.mergeSort dle :=
  List.Perm.eq_of_pairwise (le := fun a b => dle a b = true) (fun a b _ _ h1 h2 => dle_anti a b h1 h2) hs (List.pairwise_mergeSort dle_trans dle_total l) (h.trans (List.mergeSort_perm l dle).symm)

theorem flat_eq (l : List Dt) : Go.Sort.flatK cells2 2 l.toArray = (flatD l).toArray := by
  apply Array.ext
  · rw [Go.Sort.size_flatK, List.size_toArray, List.size_toArray, flatD_length]
  · intro i h1 h2
    have hi : i < l.toArray.size * 2 := by rw [Go.Sort.size_flatK] at h1; exact h1
    have h3 := Go.Sort.get_flatK cells2 2 l.toArray i hi
    rw [getElem!_pos _ i h1] at h3
    rw [h3]
    have hq : i / 2 < l.length := by rw [List.size_toArray] at hi; omega
    obtain ⟨f1, f2⟩ := flatD_at hq
    have e9 : l.toArray[i / 2]! = l.getD (i / 2) noneD := by
      rw [getElem!_pos _ _ (by simpa using hq), List.getD_eq_getElem?_getD, List.getElem?_eq_getElem hq]
      rfl
    rw [e9]
    have h2' : i < (flatD l).length := by simpa using h2
    have hm : i % 2 = 0 ∨ i % 2 = 1 := by omega
    rcases hm with hm | hm
    · rw [hm]
      have : (flatD l)[i]? = some (.int .i64 (l.getD (i / 2) noneD).1) := by rw [← f1]; congr 1; omega
      rw [List.getElem?_eq_getElem h2'] at this
      injection this with this
      simp only [List.getElem_toArray]
      rw [this]; rfl
    · rw [hm]
      have : (flatD l)[i]? = some (.int .i64 (l.getD (i / 2) noneD).2) := by rw [← f2]; congr 1; omega
      rw [List.getElem?_eq_getElem h2'] at this
      injection this with this
      simp only [List.getElem_toArray]
      rw [this]; rfl
theorem holds_row {w : World} {g : Nat} {cur : Array Value} {e : TypeId} {l : List Dt} (hb : w.heap[g]? = some (.cells cur e (0, 0))) (ht : cur.toList.take (l.length * 2) = flatD l) : Go.Sort.HoldsK cells2 2 w g 0 l.toArray := by
  unfold Go.Sort.HoldsK
  rw [flat_eq]
  intro j hj
  have hj' : j < (flatD l).length := by simpa using hj
  have hj2 : j < l.length * 2 := by rw [flatD_length] at hj'; exact hj'
  refine ⟨?_, by simp [World.frozen?, hb]⟩
  have h1 : (cur.toList.take (l.length * 2))[j]? = (flatD l)[j]? := by rw [ht]
  rw [List.getElem?_take_of_lt hj2] at h1
  simp only [World.cell?, hb, Nat.zero_add]
  simp only [Option.isSome_none, Bool.false_eq_true, if_false]
  rw [← Array.getElem?_toList, h1, List.getElem?_eq_getElem hj', getElem!_pos _ _ (by simpa using hj)]
  rfl
theorem heap_put {w : World} {g n : Nat} {os : Array Obj} {cur : Array Value} {e : TypeId} {fr : Nat × Nat} (d : Array Value) (hb : w.heap[g]? = some (.cells cur e fr)) :
    (grow (Go.Sort.putRow id (Go.Sort.ahead w n) g 0 d) os).heap[g]? = some (.cells (Go.Sort.putCells id 0 d cur) e fr) := by
  have hg : g < w.heap.size := (Array.getElem?_eq_some_iff.1 hb).1
  rw [heap_grow_old _ _ (by simpa using hg)]
  simp [Go.Sort.putRow, Go.Sort.mapBlock, Go.Sort.ahead, Array.getElem?_modify, hb, Go.Sort.onCells]
theorem grown_put {w : World} {g n : Nat} {os : Array Obj} (d : Array Value) : w.grownBy (grow (Go.Sort.putRow id (Go.Sort.ahead w n) g 0 d) os) (some g) := by
  refine ⟨rfl, rfl, rfl, by simp, fun k hk hne => ?_⟩
  rw [heap_grow_old _ _ (by simpa using hk)]
  have : g ≠ k := fun e => hne (by rw [e])
  simp [Go.Sort.putRow, Go.Sort.mapBlock, Go.Sort.ahead, Array.getElem?_modify, this]
theorem take_put (cur : Array Value) (ts : List Value) (h : ts.length ≤ cur.size) : (Go.Sort.putCells id 0 ts.toArray cur).toList.take ts.length = ts := by
  apply List.ext_getElem?
  intro j
  by_cases hj : j < ts.length
  · rw [List.getElem?_take_of_lt hj, Array.getElem?_toList]
    simp [Go.Sort.putCells, hj, show j < cur.size by omega]
  · rw [List.getElem?_take_eq_none (by omega), List.getElem?_eq_none (by omega)]
/- behind the sort the same slice owns the sorted list -/
theorem own_sorted {w : World} {base g cap n : Nat} {e : TypeId} {os : Array Obj} {cur : Array Value} {ss ts : List Dt} (hl : ts.length = ss.length) (hbase : base ≤ g) (hb : w.heap[g]? = some (.cells cur e (0, 0)))
    (h1 : ss.length ≤ cap) (h2 : cap ≤ maxLen) (h3 : cur.size = cap * 2) :
    (grow (Go.Sort.putRow id (Go.Sort.ahead w n) g 0 (flatD ts).toArray) os).ownsRow base e 2 (.slice (some ⟨g, 0, none⟩) ss.length cap) ss.length (flatD ts) :=
  ⟨by rw [flatD_length, hl], .inr ⟨g, cap, _, rfl, hbase, heap_put _ hb, h1, h2, by simp [Go.Sort.putCells, h3], by rw [← hl, ← flatD_length]; exact take_put cur (flatD ts) (by rw [flatD_length]; omega)⟩⟩

theorem enter_order (args : Array Value) (W : World) : (callFunc 81 args).run Tryz.prog W = .ok (.enter 81 args) W := by
  first | kernel_rfl | simp [callFunc, go_sem, Tryz.func81]
/- slices.SortFunc of dots by dot.Order -/
theorem sort_some (g cap : Nat) (ss : List Dt) (w : World) (cur : Array Value) (hb : w.heap[g]? = some (.cells cur 30 (0, 0))) (ht : cur.toList.take (ss.length * 2) = flatD ss) (hn : ss.length ≤ 1048576) :
    Calls Tryz.prog 117 #[.slice (some ⟨g, 0, none⟩) ss.length cap, .func (.func 81) #[] #[]] w fun e w' => e = .returned (.tuple #[]) ∧ ∃ n os, w' = grow (Go.Sort.putRow id (Go.Sort.ahead w n) g 0 (flatD (ss.mergeSort dle)).toArray) os := by
  have hc := AnyQ.slices_SortFunc_total Tryz.sortDot 2 Tryz.isAgg30 Tryz.sizeOf30 cells2 (fun _ => rfl) (fun x v hv => by simp [cells2] at hv; rcases hv with rfl | rfl <;> rfl) dcmp dlt_swo 81 #[] g 0 cap ss.toArray w enter_order (fun _ _ _ _ x y => order_lays x.1 x.2 y.1 y.2 _) (holds_row hb ht) (Array.getElem?_eq_some_iff.1 hb).1 (by simp; omega) dlt_whole
  refine hc.mono ?_
  rintro e w' ⟨rfl, n, os, rfl⟩
  refine ⟨rfl, n, os, ?_⟩
  unfold Go.Proofs.sortWorldK Go.Sort.putRowK
  rw [dle_eq, flat_eq]
theorem sort_none (w : World) : Calls Tryz.prog 117 #[.slice none 0 0, .func (.func 81) #[] #[]] w fun e w' => e = .returned (.tuple #[]) ∧ w' = w :=
  AnyF.slices_SortFunc_none Tryz.sortDot none 0 _ w

attribute [local go_sem] Oper.semAt_some

set_option maxRecDepth 100000 in
set_option maxHeartbeats 2000000 in
theorem sorted_in (n : Nat) (hn : 5 ≤ n) (g : Nat) (lb : Array Value) (eg : ∀ args w, (callFunc g args).run Tryz.prog w = .ok (.enter g args) w) (l : List Dt) (Sp : List Dt → Prop) (hN : l.length ≤ 1048576) (w : World) (hseq : SeqStopsK Fence.wide (n - 1 - 1 - 1) Tryz.prog g lb (fun x : Dt => #[.agg #[.int .i64 x.1, .int .i64 x.2]]) KeepsWalks (fun ss => ss.Perm l) Sp l.length w) :
    CallsIn Fence.wide n Tryz.prog 79 #[.func (.func g) #[] lb, .func (.func 81) #[] #[]] w fun e w' => ∃ v, e = .returned v ∧ w'.ownsRow w.heap.size 30 2 v l.length (flatD (l.mergeSort dle)) ∧ Below w.heap.size w w' := by
  have h1 : 1 ≤ n := by omega
  have hf46 : Fence.wide.fn 116 := trivial
  have hf47 : Fence.wide.fn 117 := trivial
  refine callsIn_of_wp Tryz.func79 rfl trivial ?_ rfl
  simp only [Tryz.ntmps79, List.size_toArray, List.length_cons, List.length_nil, Nat.reduceAdd, Nat.reduceSub, Array.replicate_succ, Array.replicate_zero, List.push_toArray, List.append_toArray, List.nil_append, List.cons_append]
  gi_wp2_with (gi_at_call 116; refine (collect_in Fence.wide (n - 1) trivial trivial rfl (by omega) g lb trivial eg (fun ss => ss.Perm l) Sp l.length hN _ hseq).mono ?_; rintro e w1 ⟨v, ss, rfl, hS, hrow, hb⟩)
  have HS : Hid (ss.Perm l) := hS
  have HB : Hid (Below w.heap.size w w1) := hb
  have HROW : Hid (w1.ownsRow w.heap.size 30 2 v ss.length (flatD ss)) := hrow
  have hr2 := hrow.2
  clear hS hb hrow
  rcases hr2 with ⟨rfl, hz⟩ | ⟨gb, cap, cur, rfl, hbase, hgb, r1, r2, r3, r4⟩
  · have hss : ss = [] := List.eq_nil_of_length_eq_zero hz
    have hl : l = [] := by have := HS.out; rw [hss] at this; exact this.nil_eq.symm
    gi_wp2_with (gi_at_call 117; refine (callsIn_wide.2 (sort_none w1)).mono ?_; rintro e w' ⟨rfl, rfl⟩)
    go_ret
    refine ⟨.slice none 0 0, rfl, ?_, HB.out⟩
    rw [hl, List.mergeSort_nil]
    exact World.ownsRow_nil _ _ _ _
  · have HL : Hid (ss.length = l.length) := HS.out.length_eq
    have C := sort_some gb cap ss w1 cur hgb r4 (by rw [HL.out]; exact hN)
    have HR : Hid (ss.length ≤ cap ∧ cap ≤ maxLen ∧ cur.size = cap * 2 ∧ w.heap.size ≤ gb ∧ w1.heap[gb]? = some (.cells cur 30 (0, 0))) := ⟨r1, r2, r3, hbase, hgb⟩
    obtain ⟨N, hNN⟩ : ∃ N, N = ss.length := ⟨_, rfl⟩
    have HNN : Hid (N = ss.length) := hNN
    rw [← hNN] at C ⊢
    clear r1 r2 r3 r4 hbase hgb hNN
    gi_wp2_with (gi_at_call 117; refine (callsIn_wide.2 C).mono ?_; rintro e w' ⟨rfl, nn, os, hw⟩; have HW : Hid (w' = grow (Go.Sort.putRow id (Go.Sort.ahead w1 nn) gb 0 (flatD (ss.mergeSort dle)).toArray) os) := hw; clear hw)
    go_ret
    obtain ⟨r1, r2, r3, r4, r5⟩ := HR.out
    refine ⟨.slice (some ⟨gb, 0, none⟩) N cap, rfl, ?_, ?_⟩
    · rw [HW.out, HNN.out, ← sort_perm HS.out, ← HL.out]
      exact own_sorted (by simp) r4 r5 r1 r2 r3
    · rw [HW.out]
      exact HB.out.grown (grown_put _) HB.out.size (fun j hj => by cases hj; exact r4)

theorem own_base2 {w : World} {base base2 base' : Nat} {t : TypeId} {z : Nat} {v : Value} {n : Nat} {xs : List Value} (h : w.ownsRow base t z v n xs) (hl : base' ≤ base2) (he : base = base2) : w.ownsRow base' t z v n xs := by
  subst he
  refine ⟨h.1, ?_⟩
  rcases h.2 with h0 | ⟨g, cap, cur, h1, h2, h3⟩
  · exact Or.inl h0
  · exact Or.inr ⟨g, cap, cur, h1, Nat.le_trans hl h2, h3⟩
theorem enter_keys1 (args : Array Value) (W : World) : (callFunc 118 args).run Tryz.prog W = .ok (.enter 118 args) W := enters_of Tryz.func118 (by kernel_rfl) rfl _ _
set_option maxRecDepth 100000 in
set_option maxHeartbeats 2000000 in
theorem waits_any (D b : Nat) (M : List Wx) (w : World) (hc : w.cell? ⟨D, 1, none⟩ = some (.map (some b))) (hm : MapW w b M) (hn : M.length ≤ 1048576) :
    Calls Tryz.prog 39 #[.pointer (some ⟨D, 0, none⟩)] w fun e w' => ∃ v, e = .returned v ∧ w'.ownsRow w.heap.size 30 2 v M.length (flatD (waits (M.map (·.1)))) ∧ Below w.heap.size w w' := by
  have HM : Hid (MapW w b M) := hm
  have HN : Hid (M.length ≤ 1048576) := hn
  clear hm hn
  refine (callsIn_wide (n := 9)).1 ?_
  have hfK : Fence.wide.fn 80 := trivial
  have hfS : Fence.wide.fn 79 := trivial
  refine callsIn_of_wp Tryz.func39 rfl trivial ?_ rfl
  simp only [Tryz.ntmps39, List.size_toArray, List.length_cons, List.length_nil, Nat.reduceAdd, Nat.reduceSub, Array.replicate_succ, Array.replicate_zero, List.push_toArray, List.append_toArray, List.nil_append, List.cons_append]
  have hb1 : Below w.heap.size w (w.alloc (.cells #[.map (some b)] 138)) := (Below.refl _ w).alloc (Nat.le_refl _) _
  have C := sorted_in 8 (by omega) 118 #[.pointer (some ⟨w.heap.size, 0, none⟩)] enter_keys1 (M.map fun y => y.1.1) (fun _ => True) (by rw [List.length_map]; exact HN.out) (w.alloc (.cells #[.map (some b)] 138)) (by
    have h9 := keys_stops Fence.wide (8 - 1 - 1 - 1) trivial rfl (by omega) w.heap.size b M (w.alloc (.cells #[.map (some b)] 138)) (by simp) (blk_cell (MapKept.heap_alloc w _).1 rfl) (HM.out.below hb1)
    rw [List.length_map]; exact h9)
  have HB1 : Hid (Below w.heap.size w (w.alloc (.cells #[.map (some b)] 138))) := hb1
  clear hb1
  gi_wp2_with (first
    | (gi_at_call 80; refine (keys_in Fence.wide _ trivial rfl b w).mono ?_; rintro e w' ⟨rfl, rfl⟩)
    | (gi_at_call 79; refine C.mono ?_; rintro e w' ⟨v, rfl, hrow, hb⟩; have HR : Hid (w'.ownsRow w.heap.size 30 2 v M.length (flatD (waits (M.map (·.1))))) := (by have h9 := own_base2 hrow (Nat.le_succ w.heap.size) (by simp); rw [List.length_map] at h9; unfold waits; rw [List.map_map]; exact h9); have HB : Hid (Below w.heap.size w w') := HB1.out.trans (hb.mono (by simp)); clear hrow hb))
  go_ret
  exact ⟨_, rfl, HR.out, HB.out⟩

end Jd
end Go.Proofs.YtnniggjeadlbgaaGreatDoor
