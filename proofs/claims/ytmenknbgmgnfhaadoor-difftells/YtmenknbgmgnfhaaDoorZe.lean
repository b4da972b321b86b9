/- Package diff: sameAhead, cut, Cost. -/
import Derived.Test.YtmenknbgmgnfhaaDoorZd
import Derived.Deep.DeepCutAuto
import Derived.Deep.RegionLaw
import Derived.Deep.RegionHeld3
namespace Go.Proofs.YtmenknbgmgnfhaaDoor
namespace Ze
set_option linter.unusedVariables false
set_option linter.unusedSimpArgs false
open Go.ChangeShapes Go.WideShapes Go.ChangeAt Go.RowKit Ka Kb Zb Zc Zd

theorem list_extract (s : ByteArray) (i j : Nat) : (s.extract i j).toList = (s.toList.take j).drop i := by
  rw [ByteArray.toList_eq, ByteArray.toList_eq, ByteArray.data_extract, Array.toList_extract, List.extract_eq_take_drop]
  simp [List.drop_take]
theorem size_extract (s : ByteArray) (i j : Nat) (h : j ≤ s.size) : (s.extract i j).size = j - i := by
  rw [← Kb.len_eq, list_extract, List.length_drop, List.length_take, Kb.len_eq]; omega
theorem list_rest (s : ByteArray) (i : Nat) : (s.extract i s.size).toList = s.toList.drop i := by
  rw [list_extract, ← Kb.len_eq, List.take_length]
theorem drop_at {s : ByteArray} {k : Nat} (h : k < s.size) : s.toList.drop k = s[k] :: s.toList.drop (k + 1) := by
  rw [ByteArray.toList_eq, List.drop_eq_getElem_cons (by simpa using h)]; rfl
theorem drop_end {s : ByteArray} {k : Nat} (h : s.size ≤ k) : s.toList.drop k = [] := List.drop_eq_nil_of_le (by rw [Kb.len_eq]; exact h)
theorem u8_eq {x y : UInt8} : ((x.toNat : Int) == (y.toNat : Int)) = decide (x = y) := by
  rw [Bool.eq_iff_iff]; simp only [beq_iff_eq, decide_eq_true_eq]
  constructor
  · intro h; exact UInt8.toNat_inj.1 (by omega)
  · rintro rfl; rfl

set_option maxHeartbeats 1000000 in
theorem same_any (a b : ByteArray) (w : World) (ha : a.size ≤ 1000) (hb : b.size ≤ 1000) :
    Calls Tryd.prog 13 #[.string a, .string b] w fun e w' => e = .returned (.int .i64 (same a.toList b.toList)) ∧ Below w.heap.size w w' := by
  go_enter Tryd.func13, Tryd.ntmps13
  go_wp2
  go_loopw [5] (fun v wr => ∃ k : Nat, k ≤ a.size ∧ k ≤ b.size ∧ v = .int .i64 k ∧ Hid (same a.toList b.toList = k + same (a.toList.drop k) (b.toList.drop k)) ∧ Hid (Below w.heap.size w wr)) (fun v _ => a.size - (intOf v).toNat)
  case atStart => exact ⟨0, by omega, by omega, rfl, by simp [Hid], Below.refl _ _⟩
  case round =>
    obtain ⟨k, hka, hkb, rfl, HK, HB⟩ := hrel
    by_cases h1 : k < a.size
    · have z1 : (k : Int) < (a.size : Int) := by omega
      by_cases h2 : k < b.size
      · have z2 : (k : Int) < (b.size : Int) := by omega
        cases h3 : ((a[k].toNat : Int) == (b[k].toNat : Int))
        case true =>
          have HE : Hid (same (a.toList.drop k) (b.toList.drop k) = same (a.toList.drop (k + 1)) (b.toList.drop (k + 1)) + 1) := by
            rw [u8_eq, decide_eq_true_eq] at h3
            rw [Hid, drop_at h1, drop_at h2, same, if_pos h3]
          go_wp2_with fail
          go_quiet (fail)
          generalize hwq : World.drewN _ _ = w1
          have HB1 : Hid (Below w.heap.size w w1) := by rw [← hwq]; exact bel_drew HB.out _
          clear hwq
          go_wp2_with fail
          go_roundw
          case rel => exact ⟨k + 1, by omega, by omega, by go_num, by rw [Hid, HK.out, HE.out]; omega, HB1⟩
          case measure => simp [intOf]; omega
        case false =>
          have HE : Hid (same (a.toList.drop k) (b.toList.drop k) = 0) := by
            rw [u8_eq, decide_eq_false_iff_not] at h3
            rw [Hid, drop_at h1, drop_at h2, same, if_neg h3]
          go_wp2_with fail
          go_quiet (fail)
          generalize hwq : World.drewN _ _ = w1
          have HB1 : Hid (Below w.heap.size w w1) := by rw [← hwq]; exact bel_drew HB.out _
          clear hwq
          go_wp2_with fail
          go_ret
          exact ⟨ret_int (by rw [HK.out, HE.out]; simp), HB1.out⟩
      · have z2 : ¬ (k : Int) < (b.size : Int) := by omega
        have HE : Hid (same (a.toList.drop k) (b.toList.drop k) = 0) := by
          rw [Hid, drop_at h1, drop_end (s := b) (by omega), same]; simp
        go_wp2_with fail
        go_quiet (fail)
        generalize hwq : World.drewN _ _ = w1
        have HB1 : Hid (Below w.heap.size w w1) := by rw [← hwq]; exact bel_drew HB.out _
        clear hwq
        go_wp2_with fail
        go_ret
        exact ⟨ret_int (by rw [HK.out, HE.out]; simp), HB1.out⟩
    · have z1 : ¬ (k : Int) < (a.size : Int) := by omega
      have HE : Hid (same (a.toList.drop k) (b.toList.drop k) = 0) := by
        rw [Hid, drop_end (s := a) (by omega), same]; simp
      go_wp2_with fail
      go_quiet (fail)
      generalize hwq : World.drewN _ _ = w1
      have HB1 : Hid (Below w.heap.size w w1) := by rw [← hwq]; exact bel_drew HB.out _
      clear hwq
      go_wp2_with fail
      go_ret
      exact ⟨ret_int (by rw [HK.out, HE.out]; simp), HB1.out⟩

/- an edit -/
def ed (x : Fr) : Ed := ⟨x.1, x.2.1, x.2.2.toList⟩
def eds (l : List Fr) : List Ed := l.map ed
/- cut -/
theorem results_tmp4 {fn : Func} {t u v x : Tmp} (h : fn.results = #[.tmp t, .tmp u, .tmp v, .tmp x]) (tmps : Array Value) (P : Program) (w : World) :
    (results fn tmps).run P w = .ok (.tuple #[tmps.getD t undef, tmps.getD u undef, tmps.getD v undef, tmps.getD x undef]) w := by
  simp [results, h]
set_option maxHeartbeats 1000000 in
theorem cut_no (s : ByteArray) (x : Fr) (w : World) (hs : s.size ≤ 1000) (hx : bad s.toList (ed x)) :
    Calls Tryd.prog 17 #[.string s, aggF x] w fun e w' => e = .returned (.tuple #[.string ⟨#[]⟩, .string ⟨#[]⟩, .string ⟨#[]⟩, .iface 36 (.int .i64 1)]) ∧ Below w.heap.size w w' := by
  obtain ⟨k, t, d⟩ := x
  unfold bad ed at hx
  simp only [Kb.len_eq] at hx
  unfold aggF
  dsimp only
  have hB0 : Below w.heap.size w (w.alloc (.cells #[.int .i64 k, .int .i64 t, .string d] 43)) := (Below.refl _ _).alloc (Nat.le_refl _) _
  have hA0 := heap_alloc_new w (.cells #[.int .i64 k, .int .i64 t, .string d] 43)
  by_cases h1 : k < 0
  · clear hx
    go_enter Tryd.func17, Tryd.ntmps17
    go_upto_region 1 with fail
    generalize w.alloc (.cells #[.int .i64 k, .int .i64 t, .string d] 43) = w0 at hB0 hA0 ⊢
    have HB0 : Hid (Below w.heap.size w w0) := hB0
    have y0 := blk_cell hA0 (i := 0) (u := .int .i64 k) rfl
    have y1 := blk_cell hA0 (i := 1) (u := .int .i64 t) rfl
    clear hB0 hA0
    go_wp2_with fail
    (try simp only [Exit.inBlock, Exit.then]); refine bodyPost_ret (results_tmp4 rfl _ _ _) rfl ?_
    exact ⟨rfl, HB0.out⟩
  · by_cases h2 : t < 0
    · clear hx
      go_enter Tryd.func17, Tryd.ntmps17
      go_upto_region 1 with fail
      generalize w.alloc (.cells #[.int .i64 k, .int .i64 t, .string d] 43) = w0 at hB0 hA0 ⊢
      have HB0 : Hid (Below w.heap.size w w0) := hB0
      have y0 := blk_cell hA0 (i := 0) (u := .int .i64 k) rfl
      have y1 := blk_cell hA0 (i := 1) (u := .int .i64 t) rfl
      clear hB0 hA0
      go_wp2_with fail
      (try simp only [Exit.inBlock, Exit.then]); refine bodyPost_ret (results_tmp4 rfl _ _ _) rfl ?_
      exact ⟨rfl, HB0.out⟩
    · by_cases h3 : k > (s.size : Int)
      · have h3b : (s.size : Int) < k := h3
        clear hx
        go_enter Tryd.func17, Tryd.ntmps17
        go_upto_region 1 with fail
        generalize w.alloc (.cells #[.int .i64 k, .int .i64 t, .string d] 43) = w0 at hB0 hA0 ⊢
        have HB0 : Hid (Below w.heap.size w w0) := hB0
        have y0 := blk_cell hA0 (i := 0) (u := .int .i64 k) rfl
        have y1 := blk_cell hA0 (i := 1) (u := .int .i64 t) rfl
        clear hB0 hA0
        go_wp2_with fail
        (try simp only [Exit.inBlock, Exit.then]); refine bodyPost_ret (results_tmp4 rfl _ _ _) rfl ?_
        exact ⟨rfl, HB0.out⟩
      · have h3b : ¬ (s.size : Int) < k := by omega
        obtain ⟨k, rfl⟩ : ∃ n : Nat, k = n := ⟨k.toNat, by omega⟩
        have h4 : (s.size : Int) - (k : Int) < t := by omega
        clear hx
        go_enter Tryd.func17, Tryd.ntmps17
        go_upto_region 1 with fail
        generalize w.alloc (.cells #[.int .i64 k, .int .i64 t, .string d] 43) = w0 at hB0 hA0 ⊢
        have HB0 : Hid (Below w.heap.size w w0) := hB0
        have y0 := blk_cell hA0 (i := 0) (u := .int .i64 k) rfl
        have y1 := blk_cell hA0 (i := 1) (u := .int .i64 t) rfl
        clear hB0 hA0
        go_wp2_with fail
        (try simp only [Exit.inBlock, Exit.then]); refine bodyPost_ret (results_tmp4 rfl _ _ _) rfl ?_
        exact ⟨rfl, HB0.out⟩
set_option maxHeartbeats 1000000 in
theorem cut_yes (s d : ByteArray) (k t : Nat) (w : World) (hs : s.size ≤ 1000) (hkt : k + t ≤ s.size) :
    Calls Tryd.prog 17 #[.string s, .agg #[.int .i64 k, .int .i64 t, .string d]] w fun e w' => e = .returned (.tuple #[.string (s.extract 0 k), .string (s.extract k (k + t)), .string (s.extract (k + t) s.size), .nilIface]) ∧ Below w.heap.size w w' := by
  have hB0 : Below w.heap.size w (w.alloc (.cells #[.int .i64 k, .int .i64 t, .string d] 43)) := (Below.refl _ _).alloc (Nat.le_refl _) _
  have hA0 := heap_alloc_new w (.cells #[.int .i64 k, .int .i64 t, .string d] 43)
  have h1 : ¬ (k : Int) < 0 := by omega
  have h2 : ¬ (t : Int) < 0 := by omega
  have h3 : ¬ (s.size : Int) < (k : Int) := by omega
  have h4 : ¬ (s.size : Int) - (k : Int) < (t : Int) := by omega
  have h5 : k ≤ s.size := by omega
  go_enter Tryd.func17, Tryd.ntmps17
  go_upto_region 1 with fail
  generalize w.alloc (.cells #[.int .i64 k, .int .i64 t, .string d] 43) = w0 at hB0 hA0 ⊢
  have HB0 : Hid (Below w.heap.size w w0) := hB0
  have y0 := blk_cell hA0 (i := 0) (u := .int .i64 k) rfl
  have y1 := blk_cell hA0 (i := 1) (u := .int .i64 t) rfl
  clear hB0 hA0
  go_wp2_with fail
  go_quiet (fail)
  generalize hwq : World.drewN _ _ = w1
  have HB1 : Hid (Below w.heap.size w w1) := by rw [← hwq]; exact bel_drew HB0.out _
  clear hwq
  go_wp2_with fail
  (try simp only [Exit.inBlock, Exit.then]); refine bodyPost_ret (results_tmp4 rfl _ _ _) rfl ?_
  refine ⟨?_, HB1.out⟩
  rfl

/- Cost -/
def cs (x : Fr) : Nat := (if 0 ≤ x.2.1 ∧ x.2.1 ≤ 200 then x.2.1.toNat else 0) + x.2.2.size
def costN (l : List Fr) : Nat := (l.map cs).sum
theorem cs_le (x : Fr) (h : x.2.2.size ≤ 1048576) : cs x ≤ 1049000 := by unfold cs; split <;> omega
theorem cost_le : ∀ {l : List Fr}, (∀ x ∈ l, x.2.2.size ≤ 1048576) → costN l ≤ l.length * 1049000
  | [], _ => by simp [costN]
  | x :: l, h => by
    have := cost_le (l := l) fun y hy => h y (List.mem_cons_of_mem _ hy)
    have := cs_le x (h x (List.mem_cons_self ..))
    simp [costN] at *; omega
theorem take_one {l : List Fr} {k : Nat} (h : k < l.length) : l.take (k + 1) = l.take k ++ [l.getD k fz] := by
  rw [List.take_succ_eq_append_getElem h, List.getD_eq_getElem?_getD, List.getElem?_eq_getElem h]; rfl
theorem cost_snoc (l : List Fr) (x : Fr) : costN (l ++ [x]) = costN l + cs x := by simp [costN]
theorem getD_mem {l : List Fr} {k : Nat} (h : k < l.length) : l.getD k fz ∈ l := by
  rw [List.getD_eq_getElem?_getD, List.getElem?_eq_getElem h]; exact List.getElem_mem h
set_option maxHeartbeats 1000000 in
theorem cost_any (R : Nat → Prop) (v : Value) (l : List Fr) (w : World) (h : FrsJ R w v l) (hn : l.length ≤ 1048576) (hz : ∀ x ∈ l, x.2.2.size ≤ 1048576) :
    Calls Tryd.prog 11 #[v] w fun e w' => e = .returned (.int .i64 (costN l)) ∧ Below w.heap.size w w' := by
  obtain ⟨p, c, rfl, hk, _⟩ := h
  obtain ⟨n, hl⟩ : ∃ n, l.length = n := ⟨_, rfl⟩
  rw [hl] at hn ⊢
  have HL : Hid (l.length = n) := hl
  have HZ : Hid (∀ x ∈ l, x.2.2.size ≤ 1048576) := hz
  have HK : Hid (FrsK R w p l) := hk
  clear hl hz hk
  go_enter Tryd.func11, Tryd.ntmps11
  go_wp2
  go_loopw [3, 5, 8] (fun s q i wr => ∃ k : Nat, k ≤ n ∧ i = .int .i64 k ∧ s = .int .i64 (costN (l.take k)) ∧ Hid (Below w.heap.size w wr)) (fun _ _ i _ => n - (intOf i).toNat)
  case atStart => exact ⟨0, by omega, rfl, rfl, Below.refl _ _⟩
  case round =>
    obtain ⟨k, hkn, rfl, rfl, HB⟩ := hrel
    by_cases hlt : k < n
    · have hltz : (k : Int) < n := by omega
      obtain ⟨b, o, rfl, _, hc⟩ := HK.out.some (by intro e; have := HL.out; rw [e] at this; simp at this; omega)
      obtain ⟨e1, e2, e3⟩ := hc k (by rw [HL.out]; exact hlt)
      have d1 := keep_cell HB.out e1
      have d2 := keep_cell HB.out e2
      have d3 := keep_cell HB.out e3
      have hm := getD_mem (l := l) (k := k) (by rw [HL.out]; exact hlt)
      have hsz := HZ.out _ hm
      have HT : Hid (costN (l.take (k + 1)) = costN (l.take k) + cs (l.getD k fz)) := by
        rw [Hid, take_one (by rw [HL.out]; exact hlt), cost_snoc]
      have hle : costN (l.take k) ≤ 1100000000000 := by
        have := cost_le (l := l.take k) fun x hx => HZ.out x (List.mem_of_mem_take hx)
        have h2 : (l.take k).length ≤ 1048576 := by rw [List.length_take]; omega
        have := Nat.mul_le_mul_right 1049000 h2
        omega
      clear e1 e2 e3 hc hm
      obtain ⟨x, hx⟩ : ∃ x, l.getD k fz = x := ⟨_, rfl⟩
      rw [hx] at d1 d2 d3 hsz HT
      obtain ⟨kk, tt, dd⟩ := x
      dsimp only at d1 d2 d3 hsz
      clear hx
      generalize costN (l.take k) = C at HT hle ⊢
      have hB0 : Below w.heap.size w (wr.alloc (.cells #[.int .i64 kk, .int .i64 tt, .string dd] 43)) := HB.out.alloc (HB.out.size) _
      have hA0 := heap_alloc_new wr (.cells #[.int .i64 kk, .int .i64 tt, .string dd] 43)
      go_upto_region 5 with fail
      generalize wr.alloc (.cells #[.int .i64 kk, .int .i64 tt, .string dd] 43) = w0 at hB0 hA0 ⊢
      have HB0 : Hid (Below w.heap.size w w0) := hB0
      have y1 := blk_cell hA0 (i := 1) (u := .int .i64 tt) rfl
      have y2 := blk_cell hA0 (i := 2) (u := .string dd) rfl
      clear hB0 hA0
      by_cases h1 : 0 ≤ tt
      · by_cases h2 : tt ≤ 200
        · have HS : Hid (cs (kk, tt, dd) = tt.toNat + dd.size) := by rw [Hid, cs, if_pos ⟨h1, h2⟩]
          go_wp2_with fail
          go_roundw
          case rel => exact ⟨k + 1, by omega, by go_num, by rw [HT.out, HS.out]; congr 1; omega, HB0⟩
          case measure => simp [intOf]; omega
        · have HS : Hid (cs (kk, tt, dd) = dd.size) := by rw [Hid, cs, if_neg (fun h => h2 h.2)]; simp
          go_wp2_with fail
          go_roundw
          case rel => exact ⟨k + 1, by omega, by go_num, by rw [HT.out, HS.out]; rfl, HB0⟩
          case measure => simp [intOf]; omega
      · have HS : Hid (cs (kk, tt, dd) = dd.size) := by rw [Hid, cs, if_neg (fun h => h1 h.1)]; simp
        go_wp2_with fail
        go_roundw
        case rel => exact ⟨k + 1, by omega, by go_num, by rw [HT.out, HS.out]; rfl, HB0⟩
        case measure => simp [intOf]; omega
    · have hkk : ¬ (k : Int) < n := by omega
      have HC : Hid (costN (l.take k) = costN l) := by rw [Hid, List.take_of_length_le (by rw [HL.out]; omega)]
      go_wp2_with fail
      go_ret
      exact ⟨ret_int (by rw [HC.out]), HB.out⟩

end Ze
end Go.Proofs.YtmenknbgmgnfhaaDoor
