
import Derived.Test.YtnbnniapllkjlaaGreatDoorJ3
import Derived.Test.YtnbnniapllkjlaaGreatDoorJ10
import Derived.Test.YtnbnniapllkjlaaGreatDoorBf
import Derived.Lib.Overlaps
import Derived.Lib.AppendZerosOnto
import Derived.Laws.IdiomCopy
import Derived.Laws.NewBlocks
import Derived.Deep.RegionLaw
namespace Go.Proofs.YtnbnniapllkjlaaGreatDoor
namespace Bi
set_option linter.unusedVariables false
set_option linter.unusedSimpArgs false
open Go.ChangeShapes Go.WideShapes Go.ChangeAt Go.RowKit Bm Ka Kb La Lb Lc Ld Le Lf Lg Lh Li Lj
open Ie (set_heap)
open Bf (insB insB_len)
theorem run_copy_rows {P : Program} (w : World) (dT sT ty elem : TypeId) (z b o dLen dCap : Nat) (a : Addr) (sLen sCap m : Nat) (cs : List Value)
  (hu : P.underlying dT = some (.slice elem)) (hs : (P.info? elem).map (·.size) = some z) (hm : m = Nat.min sLen dLen) (hn : cs.length = m * z)
  (hsrc : ∀ j v, cs[j]? = some v → w.cell? (a.add j) = some v) (hc : ∀ j, j < cs.length → (w.cell? ⟨b, o + j, none⟩).isSome = true) (hf : ∀ j, j < cs.length → w.frozen? ⟨b, o + j, none⟩ = false) (h1 : ∀ v ∈ cs, v.oneCell' = true) :
  (Builtin.copy_ #[dT, sT] ty #[.slice (some ⟨b, o, none⟩) dLen dCap, .slice (some a) sLen sCap]).run P w = .ok (goInt m) (w.setCells b o cs) := by
 have hl := run_loadCells_list (P := P) w a cs hsrc
 have hst := run_storeCells_cells (P := P) b o cs 0 w (by simpa using hc) (by simpa using hf) h1
 cases hq : P.info? elem with
 | none => simp [hq] at hs
 | some i =>
  have hi : i.size = z := by simpa [hq] using hs
  simp [Builtin.copy_, run_underlying hu, Builtin.lenOf, Builtin.firstCells, sizeOf, typeInfo, hq, hi, ← hm, ← hn, hl, hst]
def setM (cur : Array Value) : Nat → List Value → Array Value
 | _, [] => cur
 | o, v :: r => setM (cur.setIfInBounds o v) (o + 1) r
theorem setM_size : ∀ (vs : List Value) (cur : Array Value) (o : Nat), (setM cur o vs).size = cur.size
 | [], _, _ => rfl
 | v :: r, cur, o => by unfold setM; rw [setM_size r]; simp
theorem setM_get : ∀ (vs : List Value) (cur : Array Value) (o : Nat), o + vs.length ≤ cur.size → ∀ k, (setM cur o vs).toList[k]? = if k < o then cur.toList[k]? else if k < o + vs.length then vs[k - o]? else cur.toList[k]?
 | [], cur, o, h, k => by
  unfold setM
  by_cases h1 : k < o
  ·rw [if_pos h1]
  ·rw [if_neg h1, if_neg (by simp; omega)]
 | v :: r, cur, o, h, k => by
  unfold setM
  rw [List.length_cons] at h
  rw [setM_get r _ (o + 1) (by simp; omega) k, Array.toList_setIfInBounds, List.length_cons]
  by_cases h1 : k < o
  ·rw [if_pos h1, if_pos (by omega), List.getElem?_set_ne (by omega)]
  ·rw [if_neg h1]
   by_cases h2 : k = o
   ·subst h2
    rw [if_pos (by omega), if_pos (by omega), List.getElem?_set_self (by simp; omega)]; simp
   ·rw [if_neg (by omega)]
    by_cases h3 : k < o + 1 + r.length
    ·rw [if_pos h3, if_pos (by omega), show k - o = (k - (o + 1)) + 1 by omega, List.getElem?_cons_succ]
    ·rw [if_neg h3, if_neg (by omega), List.getElem?_set_ne (by omega)]
theorem heap_set {g : Nat} {t : TypeId} {f : Nat × Nat} : ∀ (vs : List Value) (o : Nat) (cur : Array Value) (w : World), w.heap[g]? = some (.cells cur t f) → (w.setCells g o vs).heap[g]? = some (.cells (setM cur o vs) t f)
 | [], _, _, _, h => h
 | v :: r, o, cur, w, h => by
  rw [World.setCells]; unfold setM
  exact heap_set r (o + 1) _ _ (set_heap h)
theorem set_grown {g : Nat} : ∀ (vs : List Value) (o : Nat) (w w0 : World), w0.grownBy w (some g) → w0.grownBy (w.setCells g o vs) (some g)
 | [], _, _, _, h => h
 | v :: r, o, w, w0, h => by
  rw [World.setCells]
  refine set_grown r (o + 1) _ _ ⟨h.os, h.tape, h.output, by rw [Ie.set_size]; exact h.size, fun k hk hne => ?_⟩
  rw [Oi.set_block _ _ _ _ (fun e => hne (by rw [e]))]; exact h.block k hk hne
theorem both_row {cur : Array Value} {F X : List Value} {a b : Nat} (hX : X.length = b) (ha : a ≤ F.length) (hsz : F.length + b ≤ cur.size) (hF : cur.toList.take a = F.take a) :
  (setM (setM cur (a + b) (F.drop a)) a X).toList.take (F.length + b) = F.take a ++ X ++ F.drop a ∧ (setM (setM cur a X) (a + b) (F.drop a)).toList.take (F.length + b) = F.take a ++ X ++ F.drop a := by
 have hd : (F.drop a).length = F.length - a := by simp
 have h0 : ∀ k, k < a → cur.toList[k]? = F[k]? := fun k hk => by
  have := congrArg (fun l => l[k]?) hF
  simp only [List.getElem?_take_of_lt hk] at this
  exact this
 have key : ∀ k, k < F.length + b → (if k < a then F[k]? else if k < a + b then X[k - a]? else F[k - b]?) = (F.take a ++ X ++ F.drop a)[k]? := by
  intro k hk
  have ht : (F.take a).length = a := by rw [List.length_take]; omega
  by_cases h1 : k < a
  ·rw [if_pos h1, List.append_assoc, List.getElem?_append_left (by omega), List.getElem?_take_of_lt h1]
  ·rw [if_neg h1]
   by_cases h2 : k < a + b
   ·rw [if_pos h2, List.append_assoc, List.getElem?_append_right (by omega), ht, List.getElem?_append_left (by omega)]
   ·rw [if_neg h2, List.getElem?_append_right (by rw [List.length_append]; omega), List.length_append, ht, hX, List.getElem?_drop]
    congr 1; omega
 have hl : (F.take a ++ X ++ F.drop a).length = F.length + b := by
  rw [List.length_append, List.length_append, List.length_take, hd, hX]; omega
 constructor
 ·apply List.ext_getElem?
  intro k
  by_cases hk : k < F.length + b
  ·rw [List.getElem?_take_of_lt hk, setM_get X _ a (by rw [setM_size]; omega), ← key k hk, setM_get (F.drop a) cur (a + b) (by omega), hX, hd]
   by_cases h1 : k < a
   ·simp only [if_pos h1, if_pos (show k < a + b by omega)]; exact h0 k h1
   ·by_cases h2 : k < a + b
    ·simp only [if_neg h1, if_pos h2]
    ·simp only [if_neg h1, if_neg h2, if_pos (show k < a + b + (F.length - a) by omega), List.getElem?_drop]
     congr 1; omega
  ·rw [List.getElem?_eq_none (by rw [List.length_take]; omega), List.getElem?_eq_none (by omega)]
 ·apply List.ext_getElem?
  intro k
  by_cases hk : k < F.length + b
  ·rw [List.getElem?_take_of_lt hk, setM_get (F.drop a) _ (a + b) (by rw [setM_size]; omega), ← key k hk, setM_get X cur a (by omega), hX, hd]
   by_cases h1 : k < a
   ·simp only [if_pos h1, if_pos (show k < a + b by omega)]; exact h0 k h1
   ·by_cases h2 : k < a + b
    ·simp only [if_neg h1, if_pos h2]
    ·simp only [if_neg h1, if_neg h2, if_pos (show k < a + b + (F.length - a) by omega), List.getElem?_drop]
     congr 1; omega
  ·rw [List.getElem?_eq_none (by rw [List.length_take]; omega), List.getElem?_eq_none (by omega)]
theorem flat_take (l : List Leaf) (i : Nat) : flat (l.take i) = (flat l).take (i * 3) ∧ flat (l.drop i) = (flat l).drop (i * 3) := by
 have h := flat_append (l.take i) (l.drop i)
 rw [List.take_append_drop] at h
 by_cases hi : i ≤ l.length
 ·have hl : (flat (l.take i)).length = i * 3 := by rw [flat_length, List.length_take]; omega
  rw [h, List.take_left' hl, List.drop_left' hl]; exact ⟨rfl, rfl⟩
 ·have h1 : (flat l).length ≤ i * 3 := by rw [flat_length]; omega
  rw [List.take_of_length_le (by omega), List.drop_of_length_le (by omega), List.take_of_length_le (by omega), List.drop_of_length_le (by omega)]
  exact ⟨rfl, rfl⟩
theorem flat_ins (B : List Leaf) (i : Nat) (x : Leaf) : flat (insB B i x) = (flat B).take (i * 3) ++ cells3 x ++ (flat B).drop (i * 3) := by
 unfold insB
 rw [flat_append, (flat_take B i).1, show x :: B.drop i = [x] ++ B.drop i from rfl, flat_append, (flat_take B i).2, ← List.append_assoc]
 rfl
theorem zeroL (w : World) : (Go.sizeOf 86).run Tryz.prog w = .ok 3 w := by kernel_rfl
theorem info3 : (Tryz.prog.info? 86).map (·.size) = some 3 := by kernel_rfl
theorem cells3_one (x : Leaf) : ∀ u ∈ cells3 x, u.oneCell' = true := by
 intro u hu; simp only [cells3, List.mem_cons, List.not_mem_nil, or_false] at hu; rcases hu with rfl | rfl | rfl <;> rfl
def InPost (w : World) (base : Nat) (v : Value) (L : List Leaf) (e : Ending) (w' : World) : Prop :=
 ∃ v', e = .returned v' ∧ w'.ownsRow base 86 3 v' L.length (flat L) ∧ w.grownBy w' v.ownBlock
theorem arr_cell {w : World} {vb : Nat} {x : Leaf} (hv : w.heap[vb]? = some (.cells #[.string x.1, .int .i64 x.2.1, .bool x.2.2] 86 (0, 0))) : ∀ j u, (cells3 x)[j]? = some u → w.cell? ((⟨vb, 0, none⟩ : Addr).add j) = some u := by
 intro j u hu
 rw [Addr.add_lit, Nat.zero_add]
 simp only [World.cell?, hv]
 have hj : j < 3 := (List.getElem?_eq_some_iff.1 hu).1
 have h3 : j = 0 ∨ j = 1 ∨ j = 2 := by omega
 rcases h3 with rfl | rfl | rfl <;> exact hu
set_option maxHeartbeats 4000000 in
set_option maxRecDepth 100000 in
theorem insert_end (base vb g n c : Nat) (B : List Leaf) (x : Leaf) (w : World) (hO : w.ownsRow base 86 3 (.slice (some ⟨g, 0, none⟩) n c) n (flat B)) (hl : B.length = n) (hn : n ≤ 1048576) (hbs : base ≤ w.heap.size) (hv : w.heap[vb]? = some (.cells #[.string x.1, .int .i64 x.2.1, .bool x.2.2] 86 (0, 0))) :
  Calls Tryz.prog 99 #[.slice (some ⟨g, 0, none⟩) n c, .int .i64 n, .slice (some ⟨vb, 0, none⟩) 1 1] w (InPost w base (.slice (some ⟨g, 0, none⟩) n c) (insB B n x)) := by
 obtain ⟨i0, hi, hz0, hz1, hz2⟩ := info_parts infoLeaf
 have HN : Hid (∀ j u, (cells3 x)[j]? = some u → w.cell? ((⟨vb, 0, none⟩ : Addr).add j) = some u) := arr_cell hv
 have HO : Hid (w.ownsRow base 86 3 (.slice (some ⟨g, 0, none⟩) n c) n (flat B)) := hO
 have HL : Hid (B.length = n) := hl
 have HE : Hid (flat (insB B n x) = flat B ++ cells3 x ∧ (insB B n x).length = n + 1) := by
  refine ⟨?_, by rw [insB_len (by omega), hl]⟩
  rw [flat_ins, List.take_of_length_le (by rw [flat_length, hl]; exact Nat.le_refl _), List.drop_of_length_le (by rw [flat_length, hl]; exact Nat.le_refl _), List.append_nil]
 have hnc : n ≤ c ∧ c ≤ 9223372036854775807 := by
  rcases hO.2 with ⟨e, _⟩ | ⟨g9, c9, _, e, _, _, h3, h4, _⟩
  ·cases e
  ·injection e with _ _ e; unfold maxLen at h4; omega
 obtain ⟨hnc1, hnc2⟩ := hnc
 clear hO hl hv
 go_enter Tryz.func99, Tryz.ntmps99
 go_wp2_with (at_builtin; refine wpList_append_own_at _ rfl (.tmp 23) (.tmp 24) 39 rfl base 86 i0 (.agg #[.string ⟨#[]⟩, .int .i64 0, .bool false]) 3 32 Tryz.underlying39 hi hz0 hz1 hz2 rfl (by decide) (.slice (some ⟨g, 0, none⟩) n c) n (flat B) rfl HO.out ⟨vb, 0, none⟩ 1 1 (cells3 x) rfl rfl HN.out (cells3_one x) (by unfold maxLen; omega) (by omega) hbs ?_; intro v' w1 hown' hgrow _ hat; have HOW : Hid (w1.ownsRow base 86 3 v' (n + 1) (flat B ++ cells3 x)) := hown'; have HGR : Hid (w.grownBy w1 (some g)) := hgrow; clear hown' hgrow hat)
 all_goals
  go_ret
  exact ⟨_, rfl, by rw [HE.out.1, HE.out.2]; exact HOW.out, HGR.out⟩
set_option maxHeartbeats 4000000 in
set_option maxRecDepth 100000 in
theorem insert_room (base vb g n c i : Nat) (B : List Leaf) (x : Leaf) (w : World) (hO : w.ownsRow base 86 3 (.slice (some ⟨g, 0, none⟩) n c) n (flat B)) (hl : B.length = n) (hn : n ≤ 1048576) (hi : i < n) (hroom : n + 1 ≤ c) (hbs : base ≤ w.heap.size) (hv : w.heap[vb]? = some (.cells #[.string x.1, .int .i64 x.2.1, .bool x.2.2] 86 (0, 0))) (hne : vb ≠ g) :
  Calls Tryz.prog 99 #[.slice (some ⟨g, 0, none⟩) n c, .int .i64 i, .slice (some ⟨vb, 0, none⟩) 1 1] w (InPost w base (.slice (some ⟨g, 0, none⟩) n c) (insB B i x)) := by
 obtain ⟨cur, hcur, hc63, hsz, htk, hbg⟩ : ∃ cur, w.heap[g]? = some (.cells cur 86 (0, 0)) ∧ c ≤ maxLen ∧ cur.size = c * 3 ∧ cur.toList.take (n * 3) = flat B ∧ base ≤ g := by
  rcases hO.2 with ⟨e, _⟩ | ⟨g9, c9, cur, e, h1, h2, h3, h4, h5, h6⟩
  ·cases e
  ·injection e with e1 e2 e3; injection e1 with e1; injection e1 with e1; subst e1 e3
   exact ⟨cur, h2, h4, h5, h6, h1⟩
 have hc : c ≤ 9223372036854775807 := by unfold maxLen at hc63; omega
 have hfl : (flat B).length = n * 3 := by rw [flat_length, hl]
 have hsp : ∀ (W : World) (ar : Array Value), W.heap[g]? = some (.cells ar 86 (0, 0)) → ar.size = c * 3 → (∀ k, k < (n + 1) * 3 → (W.cell? ⟨g, k, none⟩).isSome = true) ∧ ∀ k, W.frozen? ⟨g, k, none⟩ = false := by
  intro W ar h1 h2
  refine ⟨fun k hk => ?_, fun k => Ic.blk_free h1⟩
  have hk2 : k < ar.size := by omega
  simp only [World.cell?, h1, Array.getElem?_eq_getElem hk2]; rfl
 have hold : ∀ j u, (flat B)[j]? = some u → w.cell? ⟨g, j, none⟩ = some u := by
  intro j u hu
  have hj : j < n * 3 := by rw [← hfl]; exact (List.getElem?_eq_some_iff.1 hu).1
  rw [← htk, List.getElem?_take_of_lt hj] at hu
  simp only [World.cell?, hcur]; simpa using hu
 have hdl : ((flat B).drop (i * 3)).length = (n - i) * 3 := by rw [List.length_drop, hfl]; omega
 have hcp1 : ∀ ty dc sc, (Builtin.copy_ #[39, 39] ty #[.slice (some ⟨g, (i + 1) * 3, none⟩) (n - i) dc, .slice (some ⟨g, i * 3, none⟩) (n + 1 - i) sc]).run Tryz.prog w.drew = .ok (goInt ((n - i : Nat) : Int)) (w.drew.setCells g ((i + 1) * 3) ((flat B).drop (i * 3))) := fun ty dc sc =>
  run_copy_rows w.drew _ _ ty 86 3 g ((i + 1) * 3) (n - i) dc ⟨g, i * 3, none⟩ (n + 1 - i) sc (n - i) ((flat B).drop (i * 3)) Tryz.underlying39 info3 (by simp only [Nat.min_def]; split <;> omega) hdl
   (fun j v hj => by rw [Addr.add_lit]; rw [List.getElem?_drop] at hj; exact hold _ v hj)
   (fun j hj => (hsp w.drew cur hcur hsz).1 _ (by rw [hdl] at hj; omega)) (fun j hj => (hsp w.drew cur hcur hsz).2 _) (fun v hv => flat_one B v (List.mem_of_mem_drop hv))
 obtain ⟨W1, hW1⟩ : ∃ W1, W1 = w.drew.setCells g ((i + 1) * 3) ((flat B).drop (i * 3)) := ⟨_, rfl⟩
 have hcur1 : W1.heap[g]? = some (.cells (setM cur ((i + 1) * 3) ((flat B).drop (i * 3))) 86 (0, 0)) := by rw [hW1]; exact heap_set _ _ _ _ hcur
 have hG1 : w.grownBy W1 (some g) := by rw [hW1]; exact set_grown _ _ _ _ ⟨rfl, rfl, rfl, Nat.le_refl _, fun _ _ _ => rfl⟩
 have hvl : vb < w.heap.size := (Array.getElem?_eq_some_iff.1 hv).1
 have hv1 : W1.heap[vb]? = some (.cells #[.string x.1, .int .i64 x.2.1, .bool x.2.2] 86 (0, 0)) := by rw [hG1.block vb hvl (by intro e; injection e with e; exact hne e)]; exact hv
 have hsz1 : (setM cur ((i + 1) * 3) ((flat B).drop (i * 3))).size = c * 3 := by rw [setM_size]; exact hsz
 have hcp2 : ∀ ty dc, (Builtin.copy_ #[39, 39] ty #[.slice (some ⟨g, i * 3, none⟩) (n + 1 - i) dc, .slice (some ⟨vb, 0, none⟩) 1 1]).run Tryz.prog W1 = .ok (goInt ((1 : Nat) : Int)) (W1.setCells g (i * 3) (cells3 x)) := fun ty dc =>
  run_copy_rows W1 _ _ ty 86 3 g (i * 3) (n + 1 - i) dc ⟨vb, 0, none⟩ 1 1 1 (cells3 x) Tryz.underlying39 info3 (by simp only [Nat.min_def]; split <;> omega) rfl
   (arr_cell hv1) (fun j hj => (hsp W1 _ hcur1 hsz1).1 _ (by have : (cells3 x).length = 3 := rfl; omega)) (fun j hj => (hsp W1 _ hcur1 hsz1).2 _) (cells3_one x)
 have HP : Hid (InPost w base (.slice (some ⟨g, 0, none⟩) n c) (insB B i x) (.returned (.slice (some ⟨g, 0, none⟩) (n + 1) c)) (W1.setCells g (i * 3) (cells3 x))) := by
  have hb := both_row (cur := cur) (F := flat B) (X := cells3 x) (a := i * 3) (b := 3) rfl (by rw [hfl]; omega) (by rw [hfl, hsz]; omega) (by rw [← htk, List.take_take, Nat.min_eq_left (by omega)])
  refine ⟨_, rfl, ⟨by rw [flat_length], Or.inr ⟨g, c, _, by rw [insB_len (by omega), hl], hbg, heap_set _ _ _ _ hcur1, by rw [insB_len (by omega), hl]; exact hroom, hc63, by rw [setM_size, setM_size]; exact hsz, ?_⟩⟩, set_grown _ _ _ _ hG1⟩
  rw [flat_ins, ← hb.1, insB_len (by omega), hl, hfl, show (n + 1) * 3 = n * 3 + 3 by omega, show (i + 1) * 3 = i * 3 + 3 by omega]
 have hsa : w.shape? vb = some (86, 3) := by simp only [World.shape?, hv]; rfl
 have hsb : w.shape? g = some (86, cur.size) := by simp only [World.shape?, hcur]
 have hov : ∀ lb cb, (callFunc 124 #[.slice (some ⟨vb, 0, none⟩) 1 1, .slice (some ⟨g, (i + 1) * 3, none⟩) lb cb]).run Tryz.prog w = .ok (.value (.bool false)) w := fun lb cb => by
  rw [run_callFunc_extern Tryz.func124 (by kernel_rfl) (by kernel_rfl) (by kernel_rfl) (e := Extern.SlicesOverlaps.overlaps #[39, 39] #[4]) (by kernel_rfl),
   Lib.run_overlaps_apart w 39 4 86 Tryz.underlying39 3 zeroL ⟨vb, 0, none⟩ ⟨g, (i + 1) * 3, none⟩ 1 1 lb cb hne _ _ _ _ hsa hsb (by omega) (Ic.blk_free hv) (Ic.blk_free hv)]
  rfl
 rw [← hW1] at hcp1
 have hz2 : ¬ ((i : Int) = (n : Int)) := by omega
 have hz2b : ((i : Int) == (n : Int)) = false := by rw [beq_eq_false_iff_ne]; exact hz2
 have hw1 : IntKind.i64.wrap ((i : Int) + 1) = (i : Int) + 1 := by rw [IntKind.wrap_i64]; omega
 have hb1 : (0 : Int) ≤ (i : Int) + 1 := by omega
 have hin : i ≤ n := by omega
 have htn : ((i : Int) + 1).toNat = i + 1 := by omega
 have hb2 : ¬ (c = i + 1) := by omega
 have hb3 : (i : Int) ≤ (n : Int) + 1 := by omega
 have hb4 : ¬ (c = i) := by omega
 have hz3 : ¬ (c : Int) < (n : Int) + 1 := by omega
 have hb5 : (n : Int) + 1 ≤ (c : Int) := by omega
 clear hO hcur hcur1 hsp hold hv hv1 hG1 hsz hsz1 htk hfl hdl hsa hsb hW1
 go_enter Tryz.func99, Tryz.ntmps99
 go_wp2_with (simp only [hov])
 go_region_law (fail)
 go_wp2_with fail
 go_ret
 exact HP.out
set_option maxHeartbeats 4000000 in
set_option maxRecDepth 100000 in
theorem insert_grow (base vb g n i : Nat) (B : List Leaf) (x : Leaf) (w : World) (hO : w.ownsRow base 86 3 (.slice (some ⟨g, 0, none⟩) n n) n (flat B)) (hl : B.length = n) (hn : n ≤ 1048576) (hi : i < n) (hbs : base ≤ w.heap.size) (hv : w.heap[vb]? = some (.cells #[.string x.1, .int .i64 x.2.1, .bool x.2.2] 86 (0, 0))) :
  Calls Tryz.prog 99 #[.slice (some ⟨g, 0, none⟩) n n, .int .i64 i, .slice (some ⟨vb, 0, none⟩) 1 1] w (InPost w base (.slice (some ⟨g, 0, none⟩) n n) (insB B i x)) := by
 obtain ⟨i0, hi0, hz0, hzs, hzb⟩ := info_parts infoLeaf
 obtain ⟨cur, hcur, htk, hgl⟩ : ∃ cur, w.heap[g]? = some (.cells cur 86 (0, 0)) ∧ cur.toList.take (n * 3) = flat B ∧ g < w.heap.size := by
  rcases hO.2 with ⟨e, _⟩ | ⟨g9, c9, cur, e, h1, h2, h3, h4, h5, h6⟩
  ·cases e
  ·injection e with e1 e2 e3; injection e1 with e1; injection e1 with e1; subst e1
   exact ⟨cur, h2, h6, (Array.getElem?_eq_some_iff.1 h2).1⟩
 have hfl : (flat B).length = n * 3 := by rw [flat_length, hl]
 have hold : ∀ (W : World), W.heap[g]? = w.heap[g]? → ∀ j u, (flat B)[j]? = some u → W.cell? ⟨g, j, none⟩ = some u := by
  intro W hW j u hu
  have hj : j < n * 3 := by rw [← hfl]; exact (List.getElem?_eq_some_iff.1 hu).1
  rw [← htk, List.getElem?_take_of_lt hj] at hu
  simp only [World.cell?, hW, hcur]; simpa using hu
 have hfc : (Builtin.firstCells i0.size i (.slice (some ⟨g, 0, none⟩) i n)).run Tryz.prog w.drew = .ok ((flat B).take (i * 3)).toArray w.drew := by
  rw [hzs]
  exact run_firstCells_some w.drew 3 i ⟨g, 0, none⟩ i n ((flat B).take (i * 3)) (by rw [List.length_take, hfl]; omega) (fun j v hj => by
   rw [Addr.add_lit, Nat.zero_add]
   rw [List.getElem?_take] at hj
   split at hj
   ·exact hold w.drew rfl j v hj
   ·cases hj)
 have hik : i + (n + 1 - i) = n + 1 := by omega
 have hkk : (n : Int) + 1 - (i : Int) = ((n + 1 - i : Nat) : Int) := by omega
 obtain ⟨G, hG⟩ : ∃ G, G = grownCap w (n + 1) n 86 := ⟨_, rfl⟩
 obtain ⟨ROW, hROW⟩ : ∃ ROW : Array Value, ROW = ((flat B).take (i * 3)).toArray ++ Builtin.zeroCells (Value.agg #[.string ⟨#[]⟩, .int .i64 0, .bool false]).cells (n + 1 - i) ++ Builtin.zeroCells (Value.agg #[.string ⟨#[]⟩, .int .i64 0, .bool false]).cells (G - (n + 1)) := ⟨_, rfl⟩
 have hrz : ∀ ty, (Builtin.append_ #[39, 3] ty #[.slice (some ⟨g, 0, none⟩) i n, .int .i64 ((n : Int) + 1 - (i : Int))]).run Tryz.prog w =
   .ok (.slice (some ⟨w.heap.size, 0, none⟩) (n + 1) G) (w.drew.alloc (.cells ROW 86)) := fun ty => by
  have h := Lib.run_append_grow_zeros w 39 3 ty 86 i0 _ .i64 .i64 Tryz.underlying39 Tryz.underlying3 hi0 hz0 (some ⟨g, 0, none⟩) i n ((flat B).take (i * 3)) hfc (n + 1 - i) (by omega) (by omega) (by omega) (by omega) (by rw [hzb]; omega) (by rw [hzb, hik]; exact growslice_fits (by omega) (by omega))
  rw [hik, ← hG, ← hROW] at h
  rw [hkk]
  exact h
 have hGn : n + 1 ≤ G := by rw [hG]; exact grownCap_ge w _ _ _
 have hG63' : G ≤ maxLen := by rw [hG]; exact grownCap_le_maxLen w (n + 1) n _ (by unfold maxLen; omega)
 have hG63 : G ≤ 9223372036854775807 := by unfold maxLen at hG63'; omega
 have hRs : ROW.size = G * 3 := by
  rw [hROW, Array.size_append, Array.size_append, size_zeroCells, size_zeroCells, List.size_toArray, List.length_take, hfl]
  have : (Value.agg #[.string ⟨#[]⟩, .int .i64 0, .bool false]).cells.size = 3 := rfl
  rw [this]; omega
 have hRt : ROW.toList.take (i * 3) = (flat B).take (i * 3) := by
  rw [hROW, Array.toList_append, Array.toList_append, List.append_assoc, List.take_left' (by simp [hfl]; omega)]
 obtain ⟨W1, hW1⟩ : ∃ W1, W1 = w.drew.alloc (.cells ROW 86) := ⟨_, rfl⟩
 rw [← hW1] at hrz
 have hcur1 : W1.heap[w.heap.size]? = some (.cells ROW 86 (0, 0)) := by rw [hW1]; exact heap_alloc_new w.drew _
 have hG1 : w.grownBy W1 none := by
  rw [hW1]
  exact ⟨rfl, rfl, rfl, by simp, fun k hk _ => heap_alloc_old w.drew _ hk⟩
 have hsp : ∀ (W : World) (ar : Array Value), W.heap[w.heap.size]? = some (.cells ar 86 (0, 0)) → ar.size = G * 3 → (∀ k, k < (n + 1) * 3 → (W.cell? ⟨w.heap.size, k, none⟩).isSome = true) ∧ ∀ k, W.frozen? ⟨w.heap.size, k, none⟩ = false := by
  intro W ar h1 h2
  refine ⟨fun k hk => ?_, fun k => Ic.blk_free h1⟩
  have hk2 : k < ar.size := by omega
  simp only [World.cell?, h1, Array.getElem?_eq_getElem hk2]; rfl
 have hvl : vb < w.heap.size := (Array.getElem?_eq_some_iff.1 hv).1
 have hv1 : W1.heap[vb]? = some (.cells #[.string x.1, .int .i64 x.2.1, .bool x.2.2] 86 (0, 0)) := by rw [hG1.block vb hvl (by intro e; cases e)]; exact hv
 have hcpA : ∀ ty dc, (Builtin.copy_ #[39, 39] ty #[.slice (some ⟨w.heap.size, i * 3, none⟩) (n + 1 - i) dc, .slice (some ⟨vb, 0, none⟩) 1 1]).run Tryz.prog W1 = .ok (goInt ((1 : Nat) : Int)) (W1.setCells w.heap.size (i * 3) (cells3 x)) := fun ty dc =>
  run_copy_rows W1 _ _ ty 86 3 w.heap.size (i * 3) (n + 1 - i) dc ⟨vb, 0, none⟩ 1 1 1 (cells3 x) Tryz.underlying39 info3 (by simp only [Nat.min_def]; split <;> omega) rfl
   (arr_cell hv1) (fun j hj => (hsp W1 _ hcur1 hRs).1 _ (by have : (cells3 x).length = 3 := rfl; omega)) (fun j hj => (hsp W1 _ hcur1 hRs).2 _) (cells3_one x)
 obtain ⟨W2, hW2⟩ : ∃ W2, W2 = W1.setCells w.heap.size (i * 3) (cells3 x) := ⟨_, rfl⟩
 rw [← hW2] at hcpA
 have hcur2 : W2.heap[w.heap.size]? = some (.cells (setM ROW (i * 3) (cells3 x)) 86 (0, 0)) := by rw [hW2]; exact heap_set _ _ _ _ hcur1
 have hRs2 : (setM ROW (i * 3) (cells3 x)).size = G * 3 := by rw [setM_size]; exact hRs
 have hO2 : ∀ k, k < w.heap.size → W2.heap[k]? = w.heap[k]? := fun k hk => by
  rw [hW2]
  have h9 := set_grown (g := w.heap.size) (cells3 x) (i * 3) W1 W1 ⟨rfl, rfl, rfl, Nat.le_refl _, fun _ _ _ => rfl⟩
  rw [h9.block k (Nat.lt_of_lt_of_le hk hG1.size) (by intro e; injection e with e; omega)]
  exact hG1.block k hk (by intro e; cases e)
 have hdl : ((flat B).drop (i * 3)).length = (n - i) * 3 := by rw [List.length_drop, hfl]; omega
 have hcpB : ∀ ty dc sc, (Builtin.copy_ #[39, 39] ty #[.slice (some ⟨w.heap.size, (i + 1) * 3, none⟩) (n - i) dc, .slice (some ⟨g, i * 3, none⟩) (n - i) sc]).run Tryz.prog W2.drew = .ok (goInt ((n - i : Nat) : Int)) (W2.drew.setCells w.heap.size ((i + 1) * 3) ((flat B).drop (i * 3))) := fun ty dc sc =>
  run_copy_rows W2.drew _ _ ty 86 3 w.heap.size ((i + 1) * 3) (n - i) dc ⟨g, i * 3, none⟩ (n - i) sc (n - i) ((flat B).drop (i * 3)) Tryz.underlying39 info3 (by simp only [Nat.min_def]; split <;> omega) hdl
   (fun j v hj => by rw [Addr.add_lit]; rw [List.getElem?_drop] at hj; exact hold W2.drew (hO2 g hgl) _ v hj)
   (fun j hj => (hsp W2.drew _ hcur2 hRs2).1 _ (by rw [hdl] at hj; omega)) (fun j hj => (hsp W2.drew _ hcur2 hRs2).2 _) (fun v hv => flat_one B v (List.mem_of_mem_drop hv))
 have HP : Hid (InPost w base (.slice (some ⟨g, 0, none⟩) n n) (insB B i x) (.returned (.slice (some ⟨w.heap.size, 0, none⟩) (n + 1) G)) (W2.drew.setCells w.heap.size ((i + 1) * 3) ((flat B).drop (i * 3)))) := by
  have hb := both_row (cur := ROW) (F := flat B) (X := cells3 x) (a := i * 3) (b := 3) rfl (by rw [hfl]; omega) (by rw [hfl, hRs]; omega) hRt
  have h9 := set_grown (g := w.heap.size) ((flat B).drop (i * 3)) ((i + 1) * 3) W2.drew W2.drew ⟨rfl, rfl, rfl, Nat.le_refl _, fun _ _ _ => rfl⟩
  have h8 := set_grown (g := w.heap.size) (cells3 x) (i * 3) W1 W1 ⟨rfl, rfl, rfl, Nat.le_refl _, fun _ _ _ => rfl⟩
  rw [← hW2] at h8
  refine ⟨_, rfl, ⟨by rw [flat_length], Or.inr ⟨w.heap.size, G, _, by rw [insB_len (by omega), hl], hbs, heap_set _ _ _ W2.drew hcur2, by rw [insB_len (by omega), hl]; exact hGn, hG63', by rw [setM_size]; exact hRs2, ?_⟩⟩, ?_⟩
  ·rw [flat_ins, ← hb.2, insB_len (by omega), hl, hfl, show (n + 1) * 3 = n * 3 + 3 by omega, show (i + 1) * 3 = i * 3 + 3 by omega]
  ·refine ⟨h9.os.trans (h8.os.trans hG1.os), h9.tape.trans (h8.tape.trans hG1.tape), h9.output.trans (h8.output.trans hG1.output), Nat.le_trans hG1.size (Nat.le_trans h8.size h9.size), fun k hk _ => ?_⟩
   have hk2 : k < W2.heap.size := Nat.lt_of_lt_of_le hk (Nat.le_trans hG1.size h8.size)
   rw [h9.block k hk2 (by intro e; injection e with e; omega)]
   exact hO2 k hk
 have hz2 : ¬ ((i : Int) = (n : Int)) := by omega
 have hz2b : ((i : Int) == (n : Int)) = false := by rw [beq_eq_false_iff_ne]; exact hz2
 have hw1 : IntKind.i64.wrap ((i : Int) + 1) = (i : Int) + 1 := by rw [IntKind.wrap_i64]; omega
 have hb1 : (0 : Int) ≤ (i : Int) + 1 := by omega
 have hin : i ≤ n := by omega
 have htn : ((i : Int) + 1).toNat = i + 1 := by omega
 have hb2 : ¬ (G = i + 1) := by omega
 have hb3 : (i : Int) ≤ (n : Int) + 1 := by omega
 have hb4 : ¬ (G = i) := by omega
 have hb6 : ¬ (n = i) := by omega
 have hb5 : (i : Int) ≤ (n : Int) := by omega
 clear hO hcur hcur1 hcur2 hsp hold hv hv1 hG1 hRs hRs2 hRt htk hfl hdl hW1 hW2 hO2 hkk hik hfc hROW hG
 go_enter Tryz.func99, Tryz.ntmps99
 go_wp2_with (first
  | (at_builtin; refine Lib.wpList_append_run _ rfl _ _ _ _ rfl _ _ rfl rfl _ _ (hrz _) ?_))
 go_region_law (fail)
 go_wp2_with fail
 go_ret
 exact HP.out
theorem insert_any (base vb g n c i : Nat) (B : List Leaf) (x : Leaf) (w : World) (hO : w.ownsRow base 86 3 (.slice (some ⟨g, 0, none⟩) n c) n (flat B)) (hl : B.length = n) (hn : n ≤ 1048576) (hi : i ≤ n) (hbs : base ≤ w.heap.size) (hv : w.heap[vb]? = some (.cells #[.string x.1, .int .i64 x.2.1, .bool x.2.2] 86 (0, 0))) (hne : vb ≠ g) :
  Calls Tryz.prog 99 #[.slice (some ⟨g, 0, none⟩) n c, .int .i64 i, .slice (some ⟨vb, 0, none⟩) 1 1] w (InPost w base (.slice (some ⟨g, 0, none⟩) n c) (insB B i x)) := by
 have hnc : n ≤ c := by
  rcases hO.2 with ⟨e, _⟩ | ⟨g9, c9, _, e, _, _, h3, h4, _⟩
  ·cases e
  ·injection e with _ _ e; omega
 rcases Nat.lt_or_eq_of_le hi with h1 | rfl
 ·rcases Nat.lt_or_eq_of_le hnc with h2 | rfl
  ·exact insert_room base vb g n c i B x w hO hl hn h1 h2 hbs hv hne
  ·exact insert_grow base vb g n i B x w hO hl hn h1 hbs hv
 ·exact insert_end base vb g i c B x w hO hl hn hbs hv
end Bi
end Go.Proofs.YtnbnniapllkjlaaGreatDoor
