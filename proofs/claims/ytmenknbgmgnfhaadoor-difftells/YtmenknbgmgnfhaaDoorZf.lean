/- Package diff: mostKept: how many letters can be kept, at each two places. -/
import Derived.Test.YtmenknbgmgnfhaaDoorZe
import Derived.Laws.MakeOwn
import Derived.RegionTactic
import Derived.BigRegion
namespace Go.Proofs.YtmenknbgmgnfhaaDoor
namespace Zf
set_option linter.unusedVariables false
set_option linter.unusedSimpArgs false
open Go.ChangeShapes Go.WideShapes Go.ChangeAt Go.RowKit Ka Kb Zb Zc Zd Ze

theorem infoInt : (Tryd.prog.info? 3).map (fun i => (i.zero, i.size, i.bytes)) = some (some (.int .i64 0), 1, 8) := by kernel_rfl
theorem infoRow : (Tryd.prog.info? 45).map (fun i => (i.zero, i.size, i.bytes)) = some (some (.slice none 0 0), 1, 24) := by kernel_rfl
/- make, with the very block -/
theorem wpList_mk {P : Program} (w : World) {ops : Array Oper} {rest : List Oper} {o : Oper} {a : Act} {Q : Exit → Act → World → Prop}
    (hg : o.guard = none) (l c : Operand) (t : TypeId) (hop : o.op = Op.makeSlice t l c) (e : TypeId) (i : TypeInfo) (z : Value) (h1 : P.underlying t = some (.slice e)) (h2 : P.info? e = some i) (h3 : i.zero = some z) (h4 : i.size = 1)
    (L C : Int) (n k : Nat) (hl : a.eval l = .int .i64 L) (hc : a.eval c = .int .i64 C) (hL : L = (n : Int)) (hC : C = (k : Int)) (hnk : n ≤ k) (hb : i.bytes * k ≤ 281474976710656) (h63 : k ≤ 9223372036854775807)
    (hK : wpList P ops Q rest (a.put o.dst (.slice (some ⟨w.heap.size, 0, none⟩) n k)) (w.alloc (.cells (madeCells z.cells k) e))) :
    wpList P ops Q (o :: rest) a w := by
  refine wpList_plain hg fun K hK' => ?_
  subst hL hC
  have hr := run_make (P := P) w t e i z h1 h2 h3 .i64 .i64 (n : Int) (k : Int) (by omega) (by omega) (by rw [← Int.natCast_mul]; omega) (by omega)
  rw [h4, Nat.mul_one] at hr
  simp only [Int.toNat_natCast] at hr
  unfold Oper.wp
  simp [execOp, hop, hl, hc, hr, Result.andThen]
  exact hK' _ _ hK
theorem made_at {z : Value} (hz : z.cells = #[z]) {n j : Nat} (h : j < n) : (madeCells z.cells n)[j]? = some z := by
  rw [hz]
  simp [madeCells, h, Nat.mod_one]
/- the rows as they are made -/
def rowV (g m i : Nat) : Value := .slice (some ⟨g + 1 + i, 0, none⟩) (m + 1) (m + 1)
structure Made (w : World) (n m k : Nat) (wr : World) : Prop where
  size : wr.heap.size = w.heap.size + 1 + k
  bel : Below w.heap.size w wr
  out : ∃ cs : Array Value, wr.heap[w.heap.size]? = some (.cells cs 45) ∧ cs.size = n + 1 ∧ ∀ i, i < k → cs[i]? = some (rowV w.heap.size m i)
  row : ∀ i, i < k → ∃ cs : Array Value, wr.heap[w.heap.size + 1 + i]? = some (.cells cs 3) ∧ ∀ j, j ≤ m → cs[j]? = some (.int .i64 0)
theorem Made.start (w : World) (n m : Nat) (z : Value) : Made w n m 0 (w.alloc (.cells (madeCells z.cells (n + 1)) 45)) :=
  ⟨by simp, (Below.refl _ _).alloc (Nat.le_refl _) _, ⟨_, heap_alloc_new w _, size_madeCells _ _, fun i hi => absurd hi (by omega)⟩, fun i hi => absurd hi (by omega)⟩
theorem Made.next {w wr : World} {n m k : Nat} (h : Made w n m k wr) (hk : k < n + 1) :
    Made w n m (k + 1) ((wr.alloc (.cells (madeCells (Value.int .i64 0).cells (m + 1)) 3)).setCell ⟨w.heap.size, k, none⟩ (rowV w.heap.size m k)) := by
  obtain ⟨cs, h1, h2, h3⟩ := h.out
  have hs := h.size
  have hne : ∀ i, w.heap.size + 1 + i ≠ w.heap.size := fun i => by omega
  refine ⟨by rw [set_size]; simp; omega, (h.bel.alloc (by omega) _).setCell (p := ⟨w.heap.size, k, none⟩) (Nat.le_refl _) _, ?_, ?_⟩
  · refine ⟨_, set_heap (by rw [heap_alloc_old wr _ (by omega)]; exact h1), by simpa using h2, fun i hi => ?_⟩
    rw [Array.getElem?_setIfInBounds]
    by_cases e : k = i
    · subst e; rw [if_pos rfl, if_pos (by omega)]
    · rw [if_neg e]; exact h3 i (by omega)
  · intro i hi
    rw [set_block _ _ _ _ (hne i)]
    by_cases e : i = k
    · subst e
      refine ⟨_, by rw [← hs]; exact heap_alloc_new wr _, fun j hj => made_at rfl (by omega)⟩
    · rw [heap_alloc_old wr _ (by omega)]
      exact h.row i (by omega)
theorem Made.cell {w wr : World} {n m k : Nat} (h : Made w n m k wr) (hk : k < n + 1) (O : Obj) : (∃ v, (wr.alloc O).cell? ⟨w.heap.size, k, none⟩ = some v) ∧ (wr.alloc O).frozen? ⟨w.heap.size, k, none⟩ = false := by
  obtain ⟨cs, h1, h2, h3⟩ := h.out
  have h4 : (wr.alloc O).heap[w.heap.size]? = some (.cells cs 45) := by rw [heap_alloc_old wr _ (by have := h.size; omega)]; exact h1
  exact ⟨⟨cs[k]'(by omega), blk_cell h4 (by simp [h2, hk])⟩, blk_free h4⟩
/- the table -/
structure Tb (w : World) (n m : Nat) (f : Nat → Nat → Nat) (wr : World) : Prop where
  size : wr.heap.size = w.heap.size + n + 2
  bel : Below w.heap.size w wr
  out : ∃ cs : Array Value, wr.heap[w.heap.size]? = some (.cells cs 45) ∧ ∀ i, i ≤ n → cs[i]? = some (rowV w.heap.size m i)
  row : ∀ i, i ≤ n → ∃ cs : Array Value, wr.heap[w.heap.size + 1 + i]? = some (.cells cs 3) ∧ ∀ j, j ≤ m → cs[j]? = some (.int .i64 (f i j))
theorem Made.all {w wr : World} {n m : Nat} (h : Made w n m (n + 1) wr) : Tb w n m (fun _ _ => 0) wr := by
  obtain ⟨cs, h1, h2, h3⟩ := h.out
  exact ⟨by rw [h.size]; omega, h.bel, ⟨cs, h1, fun i hi => h3 i (by omega)⟩, fun i hi => h.row i (by omega)⟩
theorem Tb.drew {w wr : World} {n m : Nat} {f : Nat → Nat → Nat} (h : Tb w n m f wr) : Tb w n m f wr.drew := ⟨h.size, h.bel.drew, h.out, h.row⟩
theorem Tb.drewN {w wr : World} {n m : Nat} {f : Nat → Nat → Nat} (h : Tb w n m f wr) (q : Nat) : Tb w n m f (wr.drewN q) := ⟨h.size, bel_drew h.bel q, h.out, h.row⟩
theorem Tb.same {w wr : World} {n m : Nat} {f f' : Nat → Nat → Nat} (h : Tb w n m f wr) (hf : ∀ i j, i ≤ n → j ≤ m → f i j = f' i j) : Tb w n m f' wr :=
  ⟨h.size, h.bel, h.out, fun i hi => by
    obtain ⟨cs, h1, h2⟩ := h.row i hi
    exact ⟨cs, h1, fun j hj => by rw [h2 j hj, hf i j hi hj]⟩⟩
theorem Tb.head {w wr : World} {n m : Nat} {f : Nat → Nat → Nat} (h : Tb w n m f wr) {i : Nat} (hi : i ≤ n) : wr.cell? ⟨w.heap.size, i, none⟩ = some (.slice (some ⟨w.heap.size + 1 + i, 0, none⟩) (m + 1) (m + 1)) := by
  obtain ⟨cs, h1, h2⟩ := h.out
  exact blk_cell h1 (h2 i hi)
theorem Tb.at' {w wr : World} {n m : Nat} {f : Nat → Nat → Nat} (h : Tb w n m f wr) {i j : Nat} (hi : i ≤ n) (hj : j ≤ m) : wr.cell? ⟨w.heap.size + 1 + i, j, none⟩ = some (.int .i64 (f i j)) ∧ wr.frozen? ⟨w.heap.size + 1 + i, j, none⟩ = false := by
  obtain ⟨cs, h1, h2⟩ := h.row i hi
  exact ⟨blk_cell h1 (h2 j hj), blk_free h1⟩
theorem Tb.set {w wr : World} {n m : Nat} {f : Nat → Nat → Nat} (h : Tb w n m f wr) {i j : Nat} (hi : i ≤ n) (hj : j ≤ m) (x : Nat) : Tb w n m (fun i' j' => if i' = i ∧ j' = j then x else f i' j') (wr.setCell ⟨w.heap.size + 1 + i, j, none⟩ (.int .i64 x)) := by
  refine ⟨by rw [set_size]; exact h.size, h.bel.setCell (p := ⟨w.heap.size + 1 + i, j, none⟩) (by show w.heap.size ≤ w.heap.size + 1 + i; omega) _, ?_, ?_⟩
  · obtain ⟨cs, h1, h2⟩ := h.out
    exact ⟨cs, by rw [set_block _ _ _ _ (by show w.heap.size ≠ w.heap.size + 1 + i; omega)]; exact h1, h2⟩
  · intro i' hi'
    obtain ⟨cs, h1, h2⟩ := h.row i' hi'
    by_cases e : i' = i
    · subst e
      refine ⟨_, set_heap h1, fun j' hj' => ?_⟩
      rw [Array.getElem?_setIfInBounds]
      by_cases e2 : j = j'
      · subst e2
        have := (Array.getElem?_eq_some_iff.1 (h2 j hj)).1
        simp [this]
      · rw [if_neg e2, h2 j' hj', if_neg (fun e3 => e2 e3.2.symm)]
    · refine ⟨cs, by rw [set_block _ _ _ _ (by show w.heap.size + 1 + i' ≠ w.heap.size + 1 + i; omega)]; exact h1, fun j' hj' => ?_⟩
      rw [h2 j' hj', if_neg (fun e3 => e e3.1)]
/- how far it is filled: the rows from p on, and of the row ahead of it the places from q on -/
def far (A B : List UInt8) (p q i j : Nat) : Nat := if p ≤ i ∨ (p = i + 1 ∧ q ≤ j) then K (A.drop i) (B.drop j) else 0
theorem far_start (A B : List UInt8) (q i j : Nat) (hi : i ≤ A.length) (hq : B.length ≤ q) : far A B A.length q i j = 0 := by
  unfold far
  split
  · rename_i h
    rcases h with h | ⟨_, h⟩
    · rw [List.drop_eq_nil_of_le h, K_nil']
    · rw [show B.drop j = [] from List.drop_eq_nil_of_le (by omega), K_nil]
  · rfl
theorem far_row {A B : List UInt8} {p i j : Nat} (hj : j ≤ B.length) : far A B (p + 1) 0 i j = far A B p B.length i j := by
  unfold far
  by_cases h1 : p ≤ i
  · rw [if_pos (by omega), if_pos (Or.inl h1)]
  · by_cases h2 : p = i + 1 ∧ B.length ≤ j
    · rw [if_pos (Or.inr h2), if_neg (by omega), show B.drop j = [] from List.drop_eq_nil_of_le h2.2, K_nil]
    · rw [if_neg (by omega), if_neg (by omega)]
theorem far_done (A B : List UInt8) (q i j : Nat) : far A B 0 q i j = K (A.drop i) (B.drop j) := by unfold far; rw [if_pos (Or.inl (Nat.zero_le _))]
theorem far_put (A B : List UInt8) (p q i j : Nat) : (if i = p ∧ j = q then K (A.drop p) (B.drop q) else far A B (p + 1) (q + 1) i j) = far A B (p + 1) q i j := by
  unfold far
  by_cases e : i = p ∧ j = q
  · obtain ⟨rfl, rfl⟩ := e
    rw [if_pos ⟨rfl, rfl⟩, if_pos (Or.inr ⟨rfl, Nat.le_refl _⟩)]
  · rw [if_neg e]
    by_cases h : p + 1 ≤ i ∨ (p + 1 = i + 1 ∧ q + 1 ≤ j)
    · rw [if_pos h, if_pos (by omega)]
    · rw [if_neg h, if_neg (by omega)]
def Tab (w : World) (v : Value) (A B : List UInt8) : Prop := ∃ (g : Nat) (r : Nat → Nat), v = .slice (some ⟨g, 0, none⟩) (A.length + 1) (A.length + 1) ∧ (∀ i, i ≤ A.length → w.cell? ⟨g, i, none⟩ = some (.slice (some ⟨r i, 0, none⟩) (B.length + 1) (B.length + 1))) ∧ ∀ i j, i ≤ A.length → j ≤ B.length → w.cell? ⟨r i, j, none⟩ = some (.int .i64 (K (A.drop i) (B.drop j)))
theorem Tab.below {w w' : World} {v : Value} {A B : List UInt8} (h : Tab w v A B) (hb : Below w.heap.size w w') : Tab w' v A B := by
  obtain ⟨g, r, e, h1, h2⟩ := h
  exact ⟨g, r, e, fun i hi => keep_cell hb (h1 i hi), fun i j hi hj => keep_cell hb (h2 i j hi hj)⟩
theorem Tb.tab {w wr : World} {A B : List UInt8} {q : Nat} (h : Tb w A.length B.length (far A B 0 q) wr) : Tab wr (.slice (some ⟨w.heap.size, 0, none⟩) (A.length + 1) (A.length + 1)) A B :=
  ⟨w.heap.size, fun i => w.heap.size + 1 + i, rfl, fun i hi => h.head hi, fun i j hi hj => by rw [(h.at' hi hj).1, far_done]⟩

set_option maxRecDepth 100000 in
set_option maxHeartbeats 2000000 in
theorem most_any (a b : ByteArray) (w : World) (ha : a.size ≤ 200) (hb : b.size ≤ 200) :
    Calls Tryd.prog 12 #[.string a, .string b] w fun e w' => ∃ v, e = .returned v ∧ Hid (Tab w' v a.toList b.toList) ∧ Hid (Below w.heap.size w w') := by
  obtain ⟨i1, hi1, hz1, hs1, hb1⟩ := info_parts infoRow
  obtain ⟨i2, hi2, hz2, hs2, hb2⟩ := info_parts infoInt
  have HN : Hid (a.toList.length = a.size) := Kb.len_eq a
  have HM : Hid (b.toList.length = b.size) := Kb.len_eq b
  go_enter Tryd.func12, Tryd.ntmps12
  go_wp2_with (at_make; refine wpList_mk _ rfl (.tmp 11) (.tmp 11) 37 rfl 45 i1 (.slice none 0 0) Tryd.underlying37 hi1 hz1 hs1 _ _ (a.size + 1) (a.size + 1) rfl rfl (by omega) (by omega) (Nat.le_refl _) (by rw [hb1]; omega) (by omega) ?_; generalize hw1 : w.alloc _ = w1; have HF : Hid (Made w a.size b.size 0 w1) := by rw [← hw1]; exact Made.start w a.size b.size _)
  clear hw1
  go_loopw [6, 15] (fun _ v wr => ∃ k : Nat, k ≤ a.size + 1 ∧ v = .int .i64 k ∧ Hid (Made w a.size b.size k wr)) (fun _ v _ => a.size + 1 - (intOf v).toNat)
  case atStart => exact ⟨0, by omega, rfl, HF⟩
  case round =>
    clear HF
    obtain ⟨k, hk, rfl, HF⟩ := hrel
    by_cases hlt : k < a.size + 1
    · have hltz : (k : Int) < (a.size : Int) + 1 := by omega
      go_wp2_with (at_make; refine wpList_mk _ rfl (.tmp 22) (.tmp 22) 45 rfl 3 i2 (.int .i64 0) Tryd.underlying45 hi2 hz2 hs2 _ _ (b.size + 1) (b.size + 1) rfl rfl (by omega) (by omega) (Nat.le_refl _) (by rw [hb2]; omega) (by omega) ?_; obtain ⟨⟨old, d3⟩, d4⟩ := HF.out.cell hlt (.cells (madeCells (Value.int .i64 0).cells (b.size + 1)) 3); have HX : Hid (Made w a.size b.size (k + 1) ((wr.alloc (.cells (madeCells (Value.int .i64 0).cells (b.size + 1)) 3)).setCell ⟨w.heap.size, k, none⟩ (.slice (some ⟨wr.heap.size, 0, none⟩) (b.size + 1) (b.size + 1)))) := (by have h9 := HF.out.next hlt; unfold rowV at h9; rw [← HF.out.size] at h9; exact h9); generalize hw2 : wr.alloc _ = w2 at d3 d4 HX ⊢)
      go_roundw
      case rel => exact ⟨k + 1, by omega, by go_num, HX⟩
      case measure => simp [intOf]; omega
    · have hltz : ¬ (k : Int) < (a.size : Int) + 1 := by omega
      have HT : Hid (Tb w a.size b.size (far a.toList b.toList a.size b.size) wr) := by
        obtain rfl : k = a.size + 1 := by omega
        refine HF.out.all.same fun i j hi hj => ?_
        have h9 := far_start a.toList b.toList b.size i j (by rw [HN.out]; exact hi) (by rw [HM.out]; exact Nat.le_refl _)
        rw [HN.out] at h9
        exact h9.symm
      clear HF
      go_wp2_with fail
      go_loopw [7, 8] (fun v _ wr => ∃ p : Nat, p ≤ a.size ∧ v = .int .i64 ((p : Int) - 1) ∧ Hid (Tb w a.size b.size (far a.toList b.toList p b.size) wr)) (fun v _ _ => (intOf v + 1).toNat)
      case atStart => exact ⟨a.size, Nat.le_refl _, rfl, HT⟩
      case round =>
        clear HT
        obtain ⟨p, hp, rfl, HT⟩ := hrel
        cases p with
        | zero =>
          go_wp2_with fail
          go_ret
          have h9 := HT.out
          rw [← HN.out, ← HM.out] at h9
          have h8 := h9.tab
          rw [HN.out] at h8
          exact ⟨_, rfl, h8, HT.out.bel⟩
        | succ p =>
          have e1 : (((p + 1 : Nat) : Int) - 1) = (p : Int) := by omega
          rw [e1]
          have hp0 : (0 : Int) ≤ (p : Int) := by omega
          have hpl : p < a.size := by omega
          go_wp2_with fail
          go_loopw [8] (fun v wr => ∃ q : Nat, q ≤ b.size ∧ v = .int .i64 ((q : Int) - 1) ∧ Hid (Tb w a.size b.size (far a.toList b.toList (p + 1) q) wr)) (fun v _ => (intOf v + 1).toNat)
          case atStart => exact ⟨b.size, Nat.le_refl _, rfl, HT⟩
          case round =>
            clear HT
            obtain ⟨q, hq, rfl, HT⟩ := hrel
            cases q with
            | zero =>
              have HT2 : Hid (Tb w a.size b.size (far a.toList b.toList p b.size) wr) := HT.out.same fun i j hi hj => by
                have h9 := far_row (A := a.toList) (B := b.toList) (p := p) (i := i) (j := j) (by rw [HM.out]; exact hj)
                rw [HM.out] at h9; exact h9
              go_wp2_with fail
              go_roundw
              case rel => exact ⟨p, by omega, rfl, HT2⟩
              case measure => simp [intOf]
            | succ q =>
              have e2 : (((q + 1 : Nat) : Int) - 1) = (q : Int) := by omega
              rw [e2]
              have hq0 : (0 : Int) ≤ (q : Int) := by omega
              have hql : q < b.size := by omega
              go_wp2_with fail
              go_quiet (fail)
              generalize hwq : World.drewN _ _ = w2
              have HT2 : Hid (Tb w a.size b.size (far a.toList b.toList (p + 1) (q + 1)) w2) := by rw [← hwq]; exact HT.out.drewN _
              clear hwq HT
              have c1 := HT2.out.head (i := p) (by omega)
              have c2 := HT2.out.head (i := p + 1) (by omega)
              obtain ⟨_, d4⟩ := HT2.out.at' (i := p) (j := q) (by omega) (by omega)
              have HKA : Hid (a.toList.drop p = a[p] :: a.toList.drop (p + 1)) := drop_at hpl
              have HKB : Hid (b.toList.drop q = b[q] :: b.toList.drop (q + 1)) := drop_at hql
              cases h3 : ((a[p].toNat : Int) == (b[q].toNat : Int))
              case true =>
                have c3 := (HT2.out.at' (i := p + 1) (j := q + 1) (by omega) (by omega)).1
                obtain ⟨x, hx⟩ : ∃ x, x = far a.toList b.toList (p + 1) (q + 1) (p + 1) (q + 1) := ⟨_, rfl⟩
                rw [← hx] at c3
                have hxk : x = K (a.toList.drop (p + 1)) (b.toList.drop (q + 1)) := by rw [hx, far, if_pos (Or.inl (Nat.le_refl _))]
                have hx2 : x ≤ 200 := by
                  rw [hxk]
                  have h9 := K_le_l (a.toList.drop (p + 1)) (b.toList.drop (q + 1))
                  rw [List.length_drop, HN.out] at h9
                  omega
                have HK : Hid (x + 1 = K (a.toList.drop p) (b.toList.drop q)) := by
                  rw [u8_eq, decide_eq_true_eq] at h3
                  rw [Hid, hxk, HKA.out, HKB.out, h3, K_eq]
                clear hx hxk
                go_wp2_with fail
                go_region
                have HX : Hid (Tb w a.size b.size (far a.toList b.toList (p + 1) q) (w2.setCell ⟨w.heap.size + 1 + p, q, none⟩ (.int .i64 ((x : Int) + 1))).drew) := by
                  have h9 := (HT2.out.set (i := p) (j := q) (by omega) (by omega) (x + 1)).drew
                  refine h9.same fun i j hi hj => ?_
                  rw [HK.out]; exact far_put _ _ _ _ _ _
                go_wp2_with fail
                go_roundw
                case rel => exact ⟨q, by omega, rfl, HX⟩
                case measure => simp [intOf]
              case false =>
                have c3 := (HT2.out.at' (i := p + 1) (j := q) (by omega) (by omega)).1
                have c4 := (HT2.out.at' (i := p) (j := q + 1) (by omega) (by omega)).1
                obtain ⟨x, hx⟩ : ∃ x, x = far a.toList b.toList (p + 1) (q + 1) (p + 1) q := ⟨_, rfl⟩
                obtain ⟨y, hy⟩ : ∃ y, y = far a.toList b.toList (p + 1) (q + 1) p (q + 1) := ⟨_, rfl⟩
                rw [← hx] at c3
                rw [← hy] at c4
                have hxk : x = K (a.toList.drop (p + 1)) (b.toList.drop q) := by rw [hx, far, if_pos (Or.inl (Nat.le_refl _))]
                have hyk : y = K (a.toList.drop p) (b.toList.drop (q + 1)) := by rw [hy, far, if_pos (Or.inr ⟨rfl, Nat.le_refl _⟩)]
                have HK : Hid (max x y = K (a.toList.drop p) (b.toList.drop q)) := by
                  rw [u8_eq, decide_eq_false_iff_not] at h3
                  rw [Hid, hxk, hyk, HKA.out, HKB.out, K_ne h3]
                clear hx hxk hy hyk
                go_wp2_with fail
                go_region
                generalize hz : (if x < y then (y : Int) else (x : Int)) = z
                have HX : Hid (Tb w a.size b.size (far a.toList b.toList (p + 1) q) (w2.setCell ⟨w.heap.size + 1 + p, q, none⟩ (.int .i64 z)).drew) := by
                  have hz2 : z = ((max x y : Nat) : Int) := by rw [← hz]; split <;> omega
                  have h9 := (HT2.out.set (i := p) (j := q) (by omega) (by omega) (max x y)).drew
                  rw [hz2]
                  refine h9.same fun i j hi hj => ?_
                  rw [HK.out]; exact far_put _ _ _ _ _ _
                clear hz
                go_wp2_with fail
                go_roundw
                case rel => exact ⟨q, by omega, rfl, HX⟩
                case measure => simp [intOf]

end Zf
end Go.Proofs.YtmenknbgmgnfhaaDoor
