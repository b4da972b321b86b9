/- The dots of those that wait, gathered in whichever order the map gives them: what the iterator of maps.Keys, slices.AppendSeq and slices.Collect do. -/
import Derived.Test.YtnniggjeadlbgaaGreatDoorJb
import Derived.Test.YtnniggjeadlbgaaGreatDoorJ10
import Derived.RangeFuncNested
import Derived.RangeFuncLeaves
import Derived.Shelf.Abstract
import Derived.WalkKit
import Derived.OwnWalkIn
import Derived.TacticsInMore
import Derived.LoopNIn
import Derived.LoopIn
import Derived.Maps.AppendAt
import Derived.Sort.MapsRangeIn
namespace Go.Proofs.YtnniggjeadlbgaaGreatDoor
namespace Jc
set_option linter.unusedVariables false
set_option linter.unusedSimpArgs false
open Go.ChangeShapes Go.WideShapes Go.ChangeAt Go.RowKit Go.MapKept Go.ChangeMaps Go.Shelf Cm Ka Kb Na Om Oa Oz Oc Og Oi Hm Ia Ja Jb
open Ic (blk_cell blk_free)
open La (bel bel_drew errV_zero errV_ne own_ge own_grow own_below Lies)

/- 'range m', 'next' and what the step hands out, at the operation -/
theorem wpListIn_rangeW {F : Fence} {n : Nat} (w : World) {ops : Array Oper} {rest : List Oper} {o : Oper} {a : Act} {Q : Exit → Act → World → Prop} (hg : o.guard = none) (m : Operand) (hop : o.op = Op.range 138 m) {b : Nat} {es : Array MapEntry} {clock : Nat} (hm : a.eval m = .map (some b)) (hb : w.heap[b]? = some (.map es clock))
    (hK : wpListIn F n Tryz.prog ops Q rest (a.put o.dst (.pointer (some ⟨w.heap.size, 0, none⟩))) (w.alloc (.mapIter (some b) clock #[] clock))) : wpListIn F n Tryz.prog ops Q (o :: rest) a w := by
  refine wpListIn_plain hg fun K' hK' => ?_
  have hrun := run_range_map (P := Tryz.prog) w 138 30 33 b es clock under_map hb
  unfold Oper.wpIn
  refine ⟨?_, ?_⟩
  · simp [Oper.about, hop]
  · rw [Oper.semAt_plain F _ _ (by rw [hop]; intro c hc'; cases hc')]
    simp [execOp, hop, hm, hrun, Result.andThen]
    exact hK' _ _ hK
def undot : Value → Dt
  | .agg #[.int _ a, .int _ b] => (a, b)
  | _ => (0, 0)
/- a step of the loop: an entry that is left comes out -/
structure Step (w : World) (es : Array MapEntry) (b r clock : Nat) (seen : Array Nat) (e : MapEntry) (d1 d2 : Int) (v : Value) (w2 : World) : Prop where
  mem : e ∈ (leftOf es seen).toList
  key : undot e.key = (d1, d2)
  gr : w.grownBy w2 (some r)
  it : w2.heap[r]? = some (.mapIter (some b) clock (seen.push e.born) clock)
  en : (Instr.entry (.pointer (some ⟨r, 0, none⟩))).run Tryz.prog w2 = .ok (.tuple #[.agg #[.int .i64 d1, .int .i64 d2], v]) w2
def Done (es : Array MapEntry) (seen : Array Nat) : Prop := (leftOf es seen).size = 0
def Keyed (es : Array MapEntry) : Prop := ∀ e ∈ es.toList, ∃ d1 d2 : Int, e.key = .agg #[.int .i64 d1, .int .i64 d2]
theorem wpListIn_nextW {F : Fence} {n : Nat} (w : World) {ops : Array Oper} {rest : List Oper} {o : Oper} {a : Act} {Q : Exit → Act → World → Prop} (hg : o.guard = none) (it : Operand) (hop : o.op = Op.next it false) {r b clock : Nat} {seen : Array Nat} {es : Array MapEntry} (hit : a.eval it = .pointer (some ⟨r, 0, none⟩))
    (hr : w.heap[r]? = some (.mapIter (some b) clock seen clock)) (hb : w.heap[b]? = some (.map es clock)) (hbn : Born es.toList clock) (hk : Keyed es) (hne : r ≠ b)
    (hDone : Done es seen → wpListIn F n Tryz.prog ops Q rest (a.put o.dst (.tuple #[.bool false])) w)
    (hMore : ∀ (e : MapEntry) (d1 d2 : Int) (v : Value) (w2 : World), Step w es b r clock seen e d1 d2 v w2 → wpListIn F n Tryz.prog ops Q rest (a.put o.dst (.tuple #[.bool true, .agg #[.int .i64 d1, .int .i64 d2], v])) w2) :
    wpListIn F n Tryz.prog ops Q (o :: rest) a w := by
  refine wpListIn_plain hg fun K' hK' => ?_
  unfold Oper.wpIn
  refine ⟨by simp [Oper.about, hop], ?_⟩
  rw [Oper.semAt_plain F _ _ (by rw [hop]; intro c hc'; cases hc')]
  rcases run_next_at (P := Tryz.prog) w o.type r b clock clock seen es clock hr hb hbn.1 (Nat.le_refl _) with ⟨h0, hrun⟩ | ⟨e, he, w1, hw1, hrun⟩
  · simp [execOp, hop, hit, hrun, Result.andThen]
    exact hK' _ _ (hDone h0)
  · have hmem : e ∈ es.toList := by unfold leftOf at he; simp at he; simpa using he.1
    obtain ⟨d1, d2, hkey⟩ := hk e hmem
    have hr1 : w1.heap[r]? = some (.mapIter (some b) clock seen clock) := by rcases hw1 with rfl | rfl <;> exact hr
    have hb1 : w1.heap[b]? = some (.map es clock) := by rcases hw1 with rfl | rfl <;> exact hb
    have hz : r < w1.heap.size := (Array.getElem?_eq_some_iff.1 hr1).1
    have hit2 : (setBlock w1 r (.mapIter (some b) clock (seen.push e.born) clock)).heap[r]? = some (.mapIter (some b) clock (seen.push e.born) clock) := by
      show (w1.heap.setIfInBounds r _)[r]? = _
      rw [Array.getElem?_setIfInBounds]
      simp [hz]
    have hot : ∀ g, g ≠ r → (setBlock w1 r (.mapIter (some b) clock (seen.push e.born) clock)).heap[g]? = w1.heap[g]? := fun g hg9 => by
      show (w1.heap.setIfInBounds r _)[g]? = _
      rw [Array.getElem?_setIfInBounds, if_neg (fun e9 => hg9 e9.symm)]
    have hen := run_entry_at (P := Tryz.prog) (setBlock w1 r (.mapIter (some b) clock (seen.push e.born) clock)) r b clock seen es clock e hit2 ((hot b (fun e9 => hne e9.symm)).trans hb1) hmem hbn.2
    rw [hkey] at hen
    have hgr : w.grownBy (setBlock w1 r (.mapIter (some b) clock (seen.push e.born) clock)) (some r) := by
      refine ⟨?_, ?_, ?_, ?_, fun g _ hg9 => ?_⟩
      · rcases hw1 with rfl | rfl <;> rfl
      · rcases hw1 with rfl | rfl <;> rfl
      · rcases hw1 with rfl | rfl <;> rfl
      · rcases hw1 with rfl | rfl <;> simp [setBlock]
      · rw [hot g (fun e9 => hg9 (by rw [e9]))]
        rcases hw1 with rfl | rfl <;> rfl
    simp [execOp, hop, hit, hrun, Result.andThen]
    rw [hkey]
    exact hK' _ _ (hMore e d1 d2 e.val _ ⟨he, by rw [hkey]; rfl, hgr, hit2, hen⟩)

theorem undot_agg (d : Dt) : undot (aggD d) = d := rfl
theorem nodup_of {α β : Type} {f : α → β} {l : List α} (h : (l.map f).Nodup) : l.Nodup := (List.pairwise_map.1 h).imp fun hne e => hne (congrArg f e)
theorem born_inj : ∀ {l : List MapEntry}, (l.map (·.born)).Nodup → ∀ {x y : MapEntry}, x ∈ l → y ∈ l → x.born = y.born → x = y
  | [], _, _, _, hx, _, _ => by simp at hx
  | a :: l, h, x, y, hx, hy, e => by
    rw [List.map_cons, List.nodup_cons] at h
    rcases List.mem_cons.1 hx with hx | hx
    · rcases List.mem_cons.1 hy with hy | hy
      · rw [hx, hy]
      · exact absurd (List.mem_map.2 ⟨y, hy, by rw [← e, hx]⟩) h.1
    · rcases List.mem_cons.1 hy with hy | hy
      · exact absurd (List.mem_map.2 ⟨x, hx, by rw [e, hy]⟩) h.1
      · exact born_inj h.2 hx hy e
/- the loop: ks have come -/
structure Came (b r clock : Nat) (es : Array MapEntry) (wr : World) (ks : List MapEntry) : Prop where
  map : wr.heap[b]? = some (.map es clock)
  it : wr.heap[r]? = some (.mapIter (some b) clock (ks.map (·.born)).toArray clock)
  sub : ∀ e ∈ ks, e ∈ es.toList
  nd : (ks.map (·.born)).Nodup
  few : ks.length + (leftOf es (ks.map (·.born)).toArray).size ≤ es.size
theorem left_mem {es : Array MapEntry} {ks : List MapEntry} {e : MapEntry} : e ∈ (leftOf es (ks.map (·.born)).toArray).toList ↔ e ∈ es.toList ∧ e.born ∉ ks.map (·.born) := by
  unfold leftOf
  simp
theorem left_less {es : Array MapEntry} {ks : List MapEntry} {e : MapEntry} (he : e ∈ (leftOf es (ks.map (·.born)).toArray).toList) : (leftOf es ((ks ++ [e]).map (·.born)).toArray).size < (leftOf es (ks.map (·.born)).toArray).size := by
  have e1 : (leftOf es ((ks ++ [e]).map (·.born)).toArray).toList = (leftOf es (ks.map (·.born)).toArray).toList.filter (fun x => !(x.born == e.born)) := by
    unfold leftOf
    rw [Array.toList_filter, Array.toList_filter, List.filter_filter]
    congr 1
    funext x
    simp [Bool.and_comm]
    rw [Bool.eq_iff_iff]
    simp
  rw [← Array.length_toList, ← Array.length_toList, e1]
  refine List.length_filter_lt_length_iff_exists.2 ⟨e, he, by simp⟩
theorem Came.perm {b r clock : Nat} {es : Array MapEntry} {wr : World} {ks : List MapEntry} (h : Came b r clock es wr ks) (hbn : Born es.toList clock) (h0 : (leftOf es (ks.map (·.born)).toArray).size = 0) : ks.Perm es.toList := by
  refine (List.perm_ext_iff_of_nodup (nodup_of h.nd) (nodup_of hbn.2)).2 fun e => ⟨h.sub e, fun he => ?_⟩
  have hz : (leftOf es (ks.map (·.born)).toArray).toList = [] := List.eq_nil_of_length_eq_zero (by rw [Array.length_toList]; exact h0)
  have hin : e.born ∈ ks.map (·.born) := by
    by_cases hc : e.born ∈ ks.map (·.born)
    · exact hc
    · have := left_mem.2 ⟨he, hc⟩
      rw [hz] at this; cases this
  obtain ⟨x, hx, hxe⟩ := List.mem_map.1 hin
  rw [← born_inj hbn.2 (h.sub x hx) he hxe]; exact hx
theorem keys_eq {es : Array MapEntry} {M : List Wx} (he : es.toList.map pr = M.map pw) : es.toList.map (fun e => undot e.key) = M.map (fun y => y.1.1) := by
  have := congrArg (List.map fun (p : Value × Value) => undot p.1) he
  rw [List.map_map, List.map_map] at this
  exact this
theorem key_of {es : Array MapEntry} {M : List Wx} (he : es.toList.map pr = M.map pw) : Keyed es := by
  intro e h
  have : pr e ∈ M.map pw := by rw [← he]; exact List.mem_map.2 ⟨e, h, rfl⟩
  obtain ⟨y, _, hy⟩ := List.mem_map.1 this
  have hk : aggD y.1.1 = e.key := congrArg Prod.fst hy
  exact ⟨y.1.1.1, y.1.1.2, hk.symm⟩
theorem Came.step {b r clock : Nat} {es : Array MapEntry} {wr W3 : World} {ks : List MapEntry} {e : MapEntry} (h : Came b r clock es wr ks) (he : e ∈ (leftOf es (ks.map (·.born)).toArray).toList) (h3 : W3.heap[b]? = some (.map es clock)) (h4 : W3.heap[r]? = some (.mapIter (some b) clock ((ks.map (·.born)).toArray.push e.born) clock)) : Came b r clock es W3 (ks ++ [e]) := by
  obtain ⟨h5, h6⟩ := left_mem.1 he
  refine ⟨h3, by rw [h4, List.map_append]; simp, fun x hx => ?_, ?_, ?_⟩
  · rcases List.mem_append.1 hx with hx | hx
    · exact h.sub x hx
    · rw [List.mem_singleton.1 hx]; exact h5
  · rw [List.map_append, List.nodup_append]
    refine ⟨h.nd, by simp, fun a ha c hc e9 => h6 ?_⟩
    have : c = e.born := by simpa using hc
    rw [← this, ← e9]; exact ha
  · have := left_less he
    have := h.few
    simp only [List.length_append, List.length_singleton]
    omega
theorem Came.lt {b r clock : Nat} {es : Array MapEntry} {wr : World} {ks : List MapEntry} {e : MapEntry} (h : Came b r clock es wr ks) (he : e ∈ (leftOf es (ks.map (·.born)).toArray).toList) : ks.length < es.size := by
  have h1 := h.few
  have h2 : 0 < (leftOf es (ks.map (·.born)).toArray).size := by rw [← Array.length_toList]; exact List.length_pos_of_mem he
  omega
theorem flatD_snoc (l : List Dt) (x : Dt) : flatD (l ++ [x]) = flatD l ++ [.int .i64 x.1, .int .i64 x.2] := by
  unfold flatD; rw [List.flatMap_append]; rfl
theorem Came.left {b r clock : Nat} {es : Array MapEntry} {wr : World} {ks : List MapEntry} (h : Came b r clock es wr ks) : wr.rangeLeft b r = (leftOf es (ks.map (·.born)).toArray).size := by
  unfold World.rangeLeft
  rw [h.map, h.it]
theorem info29 : (Tryz.prog.info? 30).map (fun i => (i.zero, i.size, i.bytes)) = some (some (.agg #[.int .i64 0, .int .i64 0]), 2, 16) := by kernel_rfl

attribute [local go_sem] Oper.semAt_some

set_option maxRecDepth 100000 in
set_option maxHeartbeats 2000000 in
theorem keys1_in (F : Fence) (n : Nat) (h48 : F.fn 118) (hro : F.round = none) (hn : 1 ≤ n) (l Bm b : Nat) (M : List Wx) (J Jx : List Dt → World → Prop)
    (hY : ∀ pre x W, J pre W → pre.length < M.length → YieldAt F (n - 1) Tryz.prog l #[.agg #[.int .i64 x.1, .int .i64 x.2]] W fun e W' =>
      (e = .returned (.bool true) ∧ J (pre ++ [x]) W' ∧ KeepsWalks W W') ∨ (e = .returned (.bool false) ∧ Jx (pre ++ [x]) W'))
    (W : World) (hJ : AbidesFrom W.heap.size J) (hm : W.cell? ⟨Bm, 0, none⟩ = some (.map (some b))) (hown : MapW W b M) (h0 : J [] W) :
    CallsIn F n Tryz.prog 118 #[.func (.yield l) #[] #[], .pointer (some ⟨Bm, 0, none⟩)] W fun e W' => (∃ v, e = .returned v) ∧
      ((∃ ss : List Dt, ss.Perm (M.map fun y => y.1.1) ∧ J ss W') ∨ (∃ pre : List Dt, True ∧ Jx pre W')) := by
  obtain ⟨es, clock, hb, he, hbn⟩ := hown
  have hbl := (Array.getElem?_eq_some_iff.1 hb).1
  have HE : Hid (es.toList.map pr = M.map pw) := he
  have HBN : Hid (Born es.toList clock) := hbn
  have HLM : Hid (es.size = M.length) := by have := congrArg List.length he; unfold Hid; simpa using this
  have HBL : Hid (b < W.heap.size) := hbl
  have HB : Hid (W.heap[b]? = some (.map es clock)) := hb
  have HJ : Hid (AbidesFrom W.heap.size J) := hJ
  clear he hbn hbl hJ hb
  refine callsIn_of_wp Tryz.func118 rfl h48 ?_ hro
  simp only [Tryz.ntmps118, List.size_toArray, List.length_cons, List.length_nil, Nat.reduceAdd, Nat.reduceSub, Array.replicate_succ, Array.replicate_zero, List.push_toArray, List.append_toArray, List.nil_append, List.cons_append]
  gi_wp2_with (first
    | (gi_at_range; refine wpListIn_rangeW _ rfl _ rfl rfl HB.out ?_)
    | gi_in)
  go_frame
  gi_loopw [3] (fun _ wr => ∃ ks : List MapEntry, Hid (Came b W.heap.size clock es wr ks) ∧ Hid (J (ks.map fun e => undot e.key) wr))
    (fun _ wr => wr.rangeLeft b W.heap.size)
  case atStart =>
    have hc : Came b W.heap.size clock es (W.alloc (.mapIter (some b) clock #[] clock)) [] := ⟨((MapKept.heap_alloc W _).2 b HBL.out).trans HB.out, (MapKept.heap_alloc W _).1, fun e he => (by cases he), List.nodup_nil, by unfold leftOf; simp only [List.length_nil, Nat.zero_add]; exact Array.size_filter_le⟩
    exact ⟨[], hc, HJ.out [] W _ none h0 (World.grownBy_alloc W _ none) (fun r e => by cases e)⟩
  case round =>
    obtain ⟨ks, HC, HJs⟩ := hrel
    gi_wp2_with (first
      | (gi_at_next; refine wpListIn_nextW _ rfl _ rfl rfl HC.out.it HC.out.map HBN.out (key_of HE.out) (by have := HBL.out; omega) ?_ ?_)
      | gi_in)
    · intro hc0
      gi_wp2
      go_end0
      refine ⟨⟨_, rfl⟩, .inl ⟨_, ?_, HJs.out⟩⟩
      rw [← keys_eq HE.out]
      exact (HC.out.perm HBN.out hc0).map _
    · intro e d1 d2 v w2 hst
      have hen := hst.en
      have HST : Hid (Step wr es b W.heap.size clock (ks.map (·.born)).toArray e d1 d2 v w2) := hst
      have hJ2 : J (ks.map fun e => undot e.key) (w2.alloc (.cells #[.int .i64 d1, .int .i64 d2] 30)) := HJ.out _ w2 _ none (HJ.out _ wr w2 (some W.heap.size) HJs.out hst.gr (fun r e => by cases e; exact ⟨Nat.le_refl _, _, HC.out.it, rfl⟩)) (World.grownBy_alloc _ _ none) (fun r e => by cases e)
      obtain ⟨fn, tmps, assign, body, hy, hR⟩ := hY _ (d1, d2) _ hJ2 (by rw [List.length_map, ← HLM.out]; exact HC.out.lt hst.mem)
      dsimp only at hy
      have HB2 : Hid ((w2.alloc (.cells #[.int .i64 d1, .int .i64 d2] 30)).heap[b]? = some (.map es clock)) := by
        have h9 := hst.gr.block b (Array.getElem?_eq_some_iff.1 HC.out.map).1 (fun e9 => by injection e9 with e9; have := HBL.out; omega)
        exact ((MapKept.heap_alloc w2 _).2 b (Nat.lt_of_lt_of_le (Array.getElem?_eq_some_iff.1 HC.out.map).1 hst.gr.size)).trans (h9.trans HC.out.map)
      have HI2 : Hid ((w2.alloc (.cells #[.int .i64 d1, .int .i64 d2] 30)).heap[W.heap.size]? = some (.mapIter (some b) clock ((ks.map (·.born)).toArray.push e.born) clock)) := ((MapKept.heap_alloc w2 _).2 _ (Array.getElem?_eq_some_iff.1 hst.it).1).trans hst.it
      clear hst hJ2
      gi_wp2
      refine hR.mono ?_
      rintro e3 W3 (⟨rfl, hJ3, hk3⟩ | ⟨rfl, hJx3⟩)
      · have HC3 : Hid (Came b W.heap.size clock es W3 (ks ++ [e])) := HC.out.step HST.out.mem (hk3.same b _ HB2.out rfl) (hk3.same _ _ HI2.out rfl)
        have HJ3 : Hid (J ((ks ++ [e]).map fun e => undot e.key) W3) := by
          unfold Hid
          rw [List.map_append, List.map_singleton, HST.out.key]
          exact hJ3
        clear hJ3 hk3
        gi_wp2
        go_roundw
        case rel => exact ⟨ks ++ [e], HC3, HJ3⟩
        case measure =>
          rw [HC3.out.left, HC.out.left]
          exact left_less HST.out.mem
      · gi_wp2
        refine bodyPost_ret (results_none rfl _ _ _) rfl ?_
        exact ⟨⟨_, rfl⟩, .inr ⟨_, trivial, hJx3⟩⟩

theorem keys_stops (F : Fence) (n : Nat) (h48 : F.fn 118) (hro : F.round = none) (hn : 1 ≤ n) (Bm b : Nat) (M : List Wx) (w : World) (hBm : Bm < w.heap.size) (hm : w.cell? ⟨Bm, 0, none⟩ = some (.map (some b))) (hown : MapW w b M) :
    SeqStopsK F n Tryz.prog 118 #[.pointer (some ⟨Bm, 0, none⟩)] (fun x : Dt => #[.agg #[.int .i64 x.1, .int .i64 x.2]]) KeepsWalks (fun ss => ss.Perm (M.map fun y => y.1.1)) (fun _ => True) M.length w := fun l J Jx W hW hJ _ hY h0 =>
  keys1_in F n h48 hro hn l Bm b M J Jx hY W hJ ((hW.cell (p := ⟨Bm, 0, none⟩) hBm).trans hm) (hown.below hW) h0

theorem two_new (W : World) (a b : Int) (T : TypeId) : ∀ (j : Nat) (u : Value), ([Value.int .i64 a, .int .i64 b])[j]? = some u → (W.alloc (.cells #[.int .i64 a, .int .i64 b] T)).cell? ((⟨W.heap.size, 0, none⟩ : Addr).add j) = some u := by
  intro j u hu
  have hg := (MapKept.heap_alloc W (.cells #[.int .i64 a, .int .i64 b] T)).1
  rw [Addr.add_lit, Nat.zero_add]
  simp only [World.cell?, hg]
  simpa using hu
/- the loop's own variable: a block of two cells -/
def Var (W : World) (B : Nat) (x : Dt) : Prop := W.heap[B]? = some (.cells #[.int .i64 x.1, .int .i64 x.2] 30 (0, 0))
theorem Var.kept {W W' : World} {B : Nat} {x : Dt} {row : Option Nat} (h : Var W B x) (hg : W.grownBy W' row) (hr : ∀ r, row = some r → ∃ o : Obj, W.heap[r]? = some o ∧ o.isCells = false) : Var W' B x := by
  refine (hg.block B (Array.getElem?_eq_some_iff.1 h).1 fun e => ?_).trans h
  obtain ⟨o, ho, hc⟩ := hr B e.symm
  rw [show W.heap[B]? = _ from h] at ho
  cases ho; cases hc

set_option maxRecDepth 100000 in
set_option maxHeartbeats 4000000 in
theorem append_in (F : Fence) (n : Nat) (h72 : F.fn 146) (hro : F.round = none) (hn : 3 ≤ n) (g : Nat) (lb : Array Value) (hFg : F.fn g) (eg : ∀ args w, (callFunc g args).run Tryz.prog w = .ok (.enter g args) w)
    (S Sp : List Dt → Prop) (N : Nat) (hN : N ≤ 1048576) (w : World) (hseq : SeqStopsK F (n - 1) Tryz.prog g lb (fun x : Dt => #[.agg #[.int .i64 x.1, .int .i64 x.2]]) KeepsWalks S Sp N w) :
    CallsIn F n Tryz.prog 146 #[.slice none 0 0, .func (.func g) #[] lb] w fun e w' => ∃ (v : Value) (ss : List Dt), e = .returned v ∧ S ss ∧ w'.ownsRow w.heap.size 30 2 v ss.length (flatD ss) ∧ Below w.heap.size w w' := by
  have h1 : 1 ≤ n := by omega
  obtain ⟨i0, hi, hz0, hz1, hz2⟩ := info_parts info29
  refine callsIn_of_wp_marks Tryz.func146 rfl h72 ?_ hro
  simp only [Tryz.ntmps146, List.size_toArray, List.length_cons, List.length_nil, Nat.reduceAdd, Nat.reduceSub, Array.replicate_succ, Array.replicate_zero, List.push_toArray, List.append_toArray, List.nil_append, List.cons_append]
  gi_wp2
  have bO := Boxed.new w 31 (.slice none 0 0)
  have hB0 : Below w.heap.size w (w.alloc (.cells #[.slice none 0 0] 31)) := (Below.refl _ w).alloc (Nat.le_refl _) _
  have hsz : (w.alloc (.cells #[.slice none 0 0] 31)).heap.size = w.heap.size + 1 := by simp
  obtain ⟨W0, hW0⟩ : ∃ W0, w.alloc (.cells #[.slice none 0 0] 31) = W0 := ⟨_, rfl⟩
  rw [hW0] at bO hB0 hsz ⊢
  clear hW0
  refine wpIn_rangeFunc_ownH hro h1 (gf := g) (lb := lb) rfl hFg eg hseq walksK_t walksK_b hB0 (fun _ => rfl)
    (fun pre W => (∃ v, Boxed W w.heap.size 31 v ∧ W.ownsRow w.heap.size 30 2 v pre.length (flatD pre) ∧ True) ∧ Below w.heap.size w W)
    (fun _ _ _ => False)
    (OwnFrom.and (Own.from (holdsRow_own w.heap.size w.heap.size 31 30 2 (fun pre : List Dt => pre.length) (fun pre => flatD pre) (fun _ _ => True)) _) (ownFrom_below (Nat.le_refl _) (by omega)))
    (fun _ _ _ _ _ hs _ _ => hs)
    ⟨⟨_, bO, World.ownsRow_nil _ _ _ _, trivial⟩, hB0⟩
    (fun x a' W => ∃ Bx, w.heap.size < Bx ∧ Var W Bx x ∧ a' = { tmps := #[.slice none 0 0, .func (.func g) #[] lb, .pointer (some ⟨w.heap.size, 0, none⟩), undef, .slice none 0 0, .pointer (some ⟨Bx, 0, none⟩), .func (.func g) #[] lb, .agg #[.int .i64 x.1, .int .i64 x.2], undef, undef, undef, undef, undef], defers := [] })
    (fun x a' _ X Y row hs hg hr => by obtain ⟨Bx, h1, h2, h3⟩ := hs; exact ⟨Bx, h1, h2.kept hg (fun r e => (hr r e).2), h3⟩)
    ?assign ?body ?done ?stop
  case assign =>
    rintro l pre x W K ⟨⟨v, hv, hrow, _⟩, hB⟩ hK
    gi_wp2
    exact hK _ _ ((KeepsOthers.alloc _ _).from _) (KeepsWalks.alloc _ _) ⟨⟨v, hv.alloc _, hrow.alloc _, trivial⟩, hB.alloc hB.size _⟩ ⟨W.heap.size, hv.lt, (MapKept.heap_alloc W _).1, rfl⟩
  case body =>
    rintro l pre x a' W hl _ ⟨⟨v, hv, hrow, _⟩, hB⟩ ⟨Bx, hBx, bX, rfl⟩ hlt
    have hc := hv.cell
    have x0 := blk_cell (show W.heap[Bx]? = _ from bX) (i := 0) (u := .int .i64 x.1) rfl
    have x1 := blk_cell (show W.heap[Bx]? = _ from bX) (i := 1) (u := .int .i64 x.2) rfl
    have HROW : Hid (W.ownsRow w.heap.size 30 2 v pre.length (flatD pre)) := hrow
    have HV : Hid (Boxed W w.heap.size 31 v) := hv
    clear hrow hv bX
    gi_wp2_with (gi_at_builtin; refine wpListIn_append_own _ rfl _ _ 31 rfl w.heap.size 30 i0 (.agg #[.int .i64 0, .int .i64 0]) 2 16 Tryz.underlying31 hi hz0 hz1 hz2 rfl (by decide) _ _ _ rfl (HROW.out.alloc _) ⟨W.heap.size, 0, none⟩ 1 1 [.int .i64 x.1, .int .i64 x.2] rfl rfl (two_new _ _ _ _) (by simp [Value.oneCell']) (by unfold maxLen; omega) (by omega) (by have := hB.size; simp; omega) ?_; intro v' w1 hown' hgrow _; obtain ⟨g', cap', rfl⟩ := ownsRow_succ hown'; obtain ⟨hv1, hv2, hr2, hk2, hb2⟩ := HV.out.appended (by decide) HROW.out hB.size (Nat.le_refl _) hown' hgrow; have hc1 := hv1.cell; have hf1 := hv1.frozen)
    refine ⟨hk2.from _, ?_, ⟨_, hv2, ?_, trivial⟩, hB.trans hb2⟩
    · exact ⟨hk2.size, fun k o hk ho => hk2.same k o hk (by cases o <;> first | rfl | cases ho)⟩
    · rw [List.length_append, flatD_snoc]
      exact hr2
  case done =>
    rintro D ys W hD hS ⟨⟨v, hv, hrow, _⟩, hB⟩ hK
    have hc := hv.cell
    gi_wp2
    refine ⟨by simp, .inl ⟨_, _, rfl, run_takeDeferred hK, ?_⟩⟩
    exact ⟨_, results_tmp rfl _ _ _, v, ys, rfl, hS, ownsRow_putObj hrow _ hK rfl, hB.trans (belowK_b (w := w) (Nat.le_refl _) W D _ _ (by omega) hK rfl rfl)⟩
  case stop =>
    rintro D c pre W _ _ h _
    exact h.elim

set_option maxHeartbeats 1000000 in
theorem collect_in (F : Fence) (n : Nat) (h46 : F.fn 116) (h72 : F.fn 146) (hro : F.round = none) (hn : 4 ≤ n) (g : Nat) (lb : Array Value) (hFg : F.fn g) (eg : ∀ args w, (callFunc g args).run Tryz.prog w = .ok (.enter g args) w)
    (S Sp : List Dt → Prop) (N : Nat) (hN : N ≤ 1048576) (w : World) (hseq : SeqStopsK F (n - 1 - 1) Tryz.prog g lb (fun x : Dt => #[.agg #[.int .i64 x.1, .int .i64 x.2]]) KeepsWalks S Sp N w) :
    CallsIn F n Tryz.prog 116 #[.func (.func g) #[] lb] w fun e w' => ∃ (v : Value) (ss : List Dt), e = .returned v ∧ S ss ∧ w'.ownsRow w.heap.size 30 2 v ss.length (flatD ss) ∧ Below w.heap.size w w' := by
  have h1 : 1 ≤ n := by omega
  refine callsIn_of_wp Tryz.func116 rfl h46 ?_ hro
  simp only [Tryz.ntmps116, List.size_toArray, List.length_cons, List.length_nil, Nat.reduceAdd, Nat.reduceSub, Array.replicate_succ, Array.replicate_zero, List.push_toArray, List.append_toArray, List.nil_append, List.cons_append]
  gi_wp2_with (gi_at_call 146; refine (append_in F (n - 1) h72 hro (by omega) g lb hFg eg S Sp N hN _ hseq).mono ?_; rintro e w' ⟨v, ss, rfl, hS, hrow, hb⟩)
  go_ret
  exact ⟨v, ss, rfl, hS, hrow, hb⟩
set_option maxHeartbeats 1000000 in
theorem keys_in (F : Fence) (n : Nat) (h27 : F.fn 80) (hro : F.round = none) (b : Nat) (w : World) :
    CallsIn F n Tryz.prog 80 #[.map (some b)] w fun e w' => e = .returned (.func (.func 118) #[] #[.pointer (some ⟨w.heap.size, 0, none⟩)]) ∧ w' = w.alloc (.cells #[.map (some b)] 138) := by
  refine callsIn_of_wp Tryz.func80 rfl h27 ?_ hro
  simp only [Tryz.ntmps80, List.size_toArray, List.length_cons, List.length_nil, Nat.reduceAdd, Nat.reduceSub, Array.replicate_succ, Array.replicate_zero, List.push_toArray, List.append_toArray, List.nil_append, List.cons_append]
  gi_wp2
  go_ret
  exact ⟨rfl, rfl⟩

end Jc
end Go.Proofs.YtnniggjeadlbgaaGreatDoor
