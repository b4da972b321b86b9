
import Derived.Test.YtnbnniapllkjlaaGreatDoorBj
import Derived.BigQuiet
namespace Go.Proofs.YtnbnniapllkjlaaGreatDoor
namespace Bk
set_option linter.unusedVariables false
set_option linter.unusedSimpArgs false
open Go.ChangeShapes Go.WideShapes Go.ChangeAt Go.RowKit Cm Ka Kb Na Om Oa Oz Oc Og Oi Hm Ia Ic Ie Im Um Ba Bf Bg Bh Bi Bj
open La (bel bel_drew own_below flat errV_ne errV_zero LeafsIn)
open Bm (Leaf none0 ahd has leafAt isL)
theorem chg_none {w w' : World} (h : Chg (fun _ => False) w w') : Below w.heap.size w w' := ⟨h.os, h.tape, h.output, h.size, fun k hk => h.block k hk (fun q => q)⟩
theorem chg_drew {F : Nat → Prop} {w w' : World} (h : Chg F w w') : Chg F w w'.drew := ⟨h.os, h.tape, h.output, h.size, h.block⟩
theorem cell_oth {w : World} {g i b j : Nat} {v : Value} (h : b ≠ g) : (w.setCell ⟨g, i, none⟩ v).cell? ⟨b, j, none⟩ = w.cell? ⟨b, j, none⟩ := cell_stay (set_block _ _ _ _ h)
theorem flat_set : ∀ {B : List Leaf} {A : Nat} {x : Leaf}, A < B.length → x.1 = (B.getD A none0).1 → x.2.1 = (B.getD A none0).2.1 → flat (B.set A x) = (flat B).set (A * 3 + 2) (.bool x.2.2)
 | [], A, x, h, _, _ => absurd h (by simp)
 | y :: B, 0, x, h, e1, e2 => by
  simp only [List.getD_cons_zero] at e1 e2
  obtain ⟨y1, y2, y3⟩ := y
  obtain ⟨x1, x2, x3⟩ := x
  simp only at e1 e2
  subst e1 e2
  rfl
 | y :: B, A + 1, x, h, e1, e2 => by
  have ih := flat_set (B := B) (A := A) (x := x) (by simpa using h) (by simpa using e1) (by simpa using e2)
  have e : ∀ l : List Leaf, flat (y :: l) = La.cells3 y ++ flat l := fun l => by unfold La.flat; rw [List.flatMap_cons]
  rw [List.set_cons_succ, e, e, ih, List.set_append_right _ _ (by simp [La.cells3]; omega)]
  congr 2
  simp [La.cells3]; omega
theorem own_set {w : World} {base g n c A : Nat} {B : List Leaf} {x : Leaf} (h : w.ownsRow base 86 3 (.slice (some ⟨g, 0, none⟩) n c) n (flat B)) (hn : B.length = n) (hA : A < n) (e1 : x.1 = (B.getD A none0).1) (e2 : x.2.1 = (B.getD A none0).2.1) :
  (w.setCell ⟨g, A * 3 + 2, none⟩ (.bool x.2.2)).ownsRow base 86 3 (.slice (some ⟨g, 0, none⟩) n c) n (flat (B.set A x)) := by
 refine ⟨by rw [La.flat_length, List.length_set, hn], ?_⟩
 rcases h.2 with ⟨e, _⟩ | ⟨g9, c9, cur, e, h1, h2, h3, h4, h5, h6⟩
 ·cases e
 ·injection e with q1 q2 q3
  injection q1 with q1
  injection q1 with q1
  subst q1 q3
  refine Or.inr ⟨g, c, _, rfl, h1, set_heap h2, h3, h4, by simp [h5], ?_⟩
  rw [Array.toList_setIfInBounds, flat_set (by omega) e1 e2, ← h6, List.take_set]
def TbPost (base T M g : Nat) (who : Int) (S : Dq) (o : Ox) (B : List Leaf) (w : World) (e : Ending) (w' : World) : Prop :=
 (kindP S o B = 0 ∧ e = .returned (.tuple #[opZ, .bool false, .nilIface]) ∧ Below w.heap.size w w') ∨
 (kindP S o B = 1 ∧ e = .returned (.tuple #[.agg #[.int .i64 0, .int .i64 0, .int .i64 2, .string o.2.2.1, .int .i64 0, .slice none 0 0], .bool true, .nilIface]) ∧
  (∃ v', w'.heap[T]? = some (.cells #[.int .i64 who, v', .map (some M)] 97) ∧ w'.ownsRow base 86 3 v' (stB o B).length (flat (stB o B))) ∧ Chg (fun k => k = T ∨ k = g) w w') ∨
 (kindP S o B = 2 ∧ betE who o B ≠ 0 ∧ e = .returned (.tuple #[opZ, .bool false, errV (betE who o B)]) ∧ Below w.heap.size w w') ∨
 (kindP S o B = 2 ∧ betE who o B = 0 ∧ e = .returned (.tuple #[.agg #[.int .i64 0, .int .i64 0, .int .i64 1, .string (newP who o B), .int .i64 (let' o B), .slice none 0 0], .bool true, .nilIface]) ∧
  (∃ v', w'.heap[T]? = some (.cells #[.int .i64 who, v', .map (some M)] 97) ∧ w'.ownsRow base 86 3 v' (wrB who o B).length (flat (wrB who o B))) ∧ Chg (fun k => k = T ∨ k = g) w w')
set_option maxRecDepth 100000 in
set_option maxHeartbeats 4000000 in
theorem back_not (base T M g : Nat) (who : Int) (S : Dq) (xa xb t : Int) (p : ByteArray) (c0 : Int) (ss : List Dt) (qs : Option Addr) (ns cs : Nat) (q : Option Addr) (n c : Nat) (B : List Leaf) (w : World) (h : Tk base w T M who S.ops (.slice q n c) B) (hh : has B p.toList = false) :
  Calls Tryz.prog 39 #[.pointer (some ⟨T, 0, none⟩), .agg #[.int .i64 xa, .int .i64 xb, .int .i64 t, .string p, .int .i64 c0, .slice qs ns cs]] w (TbPost base T M g who S ((xa, xb), t, p, c0, ss) B w) := by
 have HK : Hid (kindP S ((xa, xb), t, p, c0, ss) B = 0) := by unfold Hid kindP; rw [if_pos hh]
 obtain ⟨q0, q1, qb, qz⟩ := If.opW_facts w xa xb t p c0 (.slice qs ns cs)
 unfold If.opW at q0 q1 qb qz
 have HQB : Hid (Below w.heap.size w ((w.alloc (.cells #[.int .i64 xa, .int .i64 xb, .int .i64 t, .string p, .int .i64 c0, .slice qs ns cs] 33)).alloc (.cells #[.int .i64 0, .int .i64 0, .int .i64 0, .string ⟨#[]⟩, .int .i64 0, .slice none 0 0] 33))) := qb
 have HQ1 : Hid (((w.alloc (.cells #[.int .i64 xa, .int .i64 xb, .int .i64 t, .string p, .int .i64 c0, .slice qs ns cs] 33)).alloc (.cells #[.int .i64 0, .int .i64 0, .int .i64 0, .string ⟨#[]⟩, .int .i64 0, .slice none 0 0] 33)).heap[w.heap.size]? = some (.cells #[.int .i64 xa, .int .i64 xb, .int .i64 t, .string p, .int .i64 c0, .slice qs ns cs] 33)) := q0
 have HR1 : Hid (((w.alloc (.cells #[.int .i64 xa, .int .i64 xb, .int .i64 t, .string p, .int .i64 c0, .slice qs ns cs] 33)).alloc (.cells #[.int .i64 0, .int .i64 0, .int .i64 0, .string ⟨#[]⟩, .int .i64 0, .slice none 0 0] 33)).heap[w.heap.size + 1]? = some (.cells #[.int .i64 0, .int .i64 0, .int .i64 0, .string ⟨#[]⟩, .int .i64 0, .slice none 0 0] 33)) := q1
 have hn : B.length = n ∧ LeafsIn w q B := by
  obtain ⟨e, p9, c9, hv, hl⟩ := La.own_book h.book
  injection hv with e1 e2 e3
  subst e1
  exact ⟨e2.symm, hl⟩
 have HT1 : Hid (∀ W, Below w.heap.size w W → W.cell? ⟨T, 1, none⟩ = some (.slice q n c)) := fun W hb => blk_cell (h.below hb).blk (i := 1) rfl
 have CF : Hid (∀ W, Below w.heap.size w W → Calls Tryz.prog 64 #[.slice q n c, .string p] W fun e w' => e = .returned (.tuple #[.int .i64 (ahd B p.toList), .bool false]) ∧ Below W.heap.size W w') := fun W hb => by
  have := Ld.find_any q n c B p W hn.1 (hn.2.below hb) h.ok.rise (by have := h.len; omega)
  rw [hh] at this; exact this
 clear q0 q1 qb qz hn hh
 clear h
 go_enter Tryz.func39, Tryz.ntmps39
 go_wp2_with fail
 have d1 := HT1.out _ HQB.out
 have d3 := blk_cell HQ1.out (i := 3) (u := .string p) rfl
 go_region_held3 (fun W => W.cell? ⟨T, 1, none⟩ = some (.slice q n c) ∧ W.cell? ⟨w.heap.size, 3, none⟩ = some (.string p)) (first | (go_keep; done) | (refine ⟨keep_cell hb7 ?_, keep_cell hb7 ?_⟩ <;> (first | assumption | (go_split_ands; assumption)))) (first
  | (go_at_call 64; refine (CF.out _ HQB.out.drew).mono ?_; rintro e w2 ⟨rfl, hb7⟩; have HB2 : Hid (Below w.heap.size w w2) := bel HQB.out.drew hb7; have HQ2 : Hid (w2.heap[w.heap.size]? = some (.cells #[.int .i64 xa, .int .i64 xb, .int .i64 t, .string p, .int .i64 c0, .slice qs ns cs] 33)) := (by rw [Hid, hb7.block _ (by first | (simp; done) | (simp; omega))]; exact HQ1.out); have HR2 : Hid (w2.heap[w.heap.size + 1]? = some (.cells #[.int .i64 0, .int .i64 0, .int .i64 0, .string ⟨#[]⟩, .int .i64 0, .slice none 0 0] 33)) := (by rw [Hid, hb7.block _ (by first | (simp; done) | (simp; omega))]; exact HR1.out)))
 clear hb7 d1 d3 CF HQ1 HR1
 have z0 := blk_cell HR2.out (i := 0) (u := .int .i64 0) rfl
 have y0 := blk_free HR2.out (i := 0)
 have z1 := blk_cell HR2.out (i := 1) (u := .int .i64 0) rfl
 have y1 := blk_free HR2.out (i := 1)
 have z2 := blk_cell HR2.out (i := 2) (u := .int .i64 0) rfl
 have y2 := blk_free HR2.out (i := 2)
 have z3 := blk_cell HR2.out (i := 3) (u := .string ⟨#[]⟩) rfl
 have y3 := blk_free HR2.out (i := 3)
 have z4 := blk_cell HR2.out (i := 4) (u := .int .i64 0) rfl
 have y4 := blk_free HR2.out (i := 4)
 have z5 := blk_cell HR2.out (i := 5) (u := .slice none 0 0) rfl
 have y5 := blk_free HR2.out (i := 5)
 have HW : Hid (((((((w2.setCell ⟨w.heap.size + 1, 0, none⟩ (.int .i64 0)).setCell ⟨w.heap.size + 1, 1, none⟩ (.int .i64 0)).setCell ⟨w.heap.size + 1, 2, none⟩ (.int .i64 0)).setCell ⟨w.heap.size + 1, 3, none⟩ (.string ⟨#[]⟩)).setCell ⟨w.heap.size + 1, 4, none⟩ (.int .i64 0)).setCell ⟨w.heap.size + 1, 5, none⟩ (.slice none 0 0)).heap[w.heap.size + 1]? = some (.cells #[.int .i64 0, .int .i64 0, .int .i64 0, .string ⟨#[]⟩, .int .i64 0, .slice none 0 0] 33)) := put6_heap HR2.out
 have HC9 : Hid (Chg (fun _ => False) w ((((((w2.setCell ⟨w.heap.size + 1, 0, none⟩ (.int .i64 0)).setCell ⟨w.heap.size + 1, 1, none⟩ (.int .i64 0)).setCell ⟨w.heap.size + 1, 2, none⟩ (.int .i64 0)).setCell ⟨w.heap.size + 1, 3, none⟩ (.string ⟨#[]⟩)).setCell ⟨w.heap.size + 1, 4, none⟩ (.int .i64 0)).setCell ⟨w.heap.size + 1, 5, none⟩ (.slice none 0 0))) := put6_chg (Chg.ofBelow HB2.out _) _ (Or.inr (by omega)) _ _ _ _ _ _
 go_wp2_with fail
 (try simp only [Exit.inBlock, Exit.then])
 generalize hWq : ((((((w2.setCell ⟨w.heap.size + 1, 0, none⟩ (.int .i64 0)).setCell ⟨w.heap.size + 1, 1, none⟩ (.int .i64 0)).setCell ⟨w.heap.size + 1, 2, none⟩ (.int .i64 0)).setCell ⟨w.heap.size + 1, 3, none⟩ (.string ⟨#[]⟩)).setCell ⟨w.heap.size + 1, 4, none⟩ (.int .i64 0)).setCell ⟨w.heap.size + 1, 5, none⟩ (.slice none 0 0)) = W at HW HC9 ⊢
 clear hWq z0 z1 z2 z3 z4 z5 y0 y1 y2 y3 y4 y5 
 refine bodyPost_ret (v := .tuple #[opZ, .bool false, .nilIface]) ?_ rfl ?_
 ·simp [results]
  rw [show (asAddr (Value.pointer (some ⟨w.heap.size + 1, 0, none⟩))).run Tryz.prog W = .ok ⟨w.heap.size + 1, 0, none⟩ W from rfl]
  simp [If.load_op HW.out, Result.andThen]
  (try rfl)
 ·exact Or.inl ⟨HK.out, rfl, chg_none HC9.out⟩
set_option maxRecDepth 100000 in
set_option maxHeartbeats 8000000 in
theorem back_has (base T M g : Nat) (who : Int) (S : Dq) (xa xb t : Int) (p : ByteArray) (c0 : Int) (ss : List Dt) (qs : Option Addr) (ns cs : Nat) (n c : Nat) (B : List Leaf) (w : World) (h : Tk base w T M who S.ops (.slice (some ⟨g, 0, none⟩) n c) B) (hh : has B p.toList = true) :
  Calls Tryz.prog 39 #[.pointer (some ⟨T, 0, none⟩), .agg #[.int .i64 xa, .int .i64 xb, .int .i64 t, .string p, .int .i64 c0, .slice qs ns cs]] w (TbPost base T M g who S ((xa, xb), t, p, c0, ss) B w) := by
 obtain ⟨q0, q1, qb, qz⟩ := If.opW_facts w xa xb t p c0 (.slice qs ns cs)
 unfold If.opW at q0 q1 qb qz
 have HQB : Hid (Below w.heap.size w ((w.alloc (.cells #[.int .i64 xa, .int .i64 xb, .int .i64 t, .string p, .int .i64 c0, .slice qs ns cs] 33)).alloc (.cells #[.int .i64 0, .int .i64 0, .int .i64 0, .string ⟨#[]⟩, .int .i64 0, .slice none 0 0] 33))) := qb
 have HQ1 : Hid (((w.alloc (.cells #[.int .i64 xa, .int .i64 xb, .int .i64 t, .string p, .int .i64 c0, .slice qs ns cs] 33)).alloc (.cells #[.int .i64 0, .int .i64 0, .int .i64 0, .string ⟨#[]⟩, .int .i64 0, .slice none 0 0] 33)).heap[w.heap.size]? = some (.cells #[.int .i64 xa, .int .i64 xb, .int .i64 t, .string p, .int .i64 c0, .slice qs ns cs] 33)) := q0
 have HR1 : Hid (((w.alloc (.cells #[.int .i64 xa, .int .i64 xb, .int .i64 t, .string p, .int .i64 c0, .slice qs ns cs] 33)).alloc (.cells #[.int .i64 0, .int .i64 0, .int .i64 0, .string ⟨#[]⟩, .int .i64 0, .slice none 0 0] 33)).heap[w.heap.size + 1]? = some (.cells #[.int .i64 0, .int .i64 0, .int .i64 0, .string ⟨#[]⟩, .int .i64 0, .slice none 0 0] 33)) := q1
 have hA := has_lt hh
 have hnn : B.length = n := by
  obtain ⟨e, p9, c9, hv, hl⟩ := La.own_book h.book
  injection hv with e1 e2 e3
  exact e2.symm
 have HN : Hid (B.length = n) := hnn
 have hn3 : n ≤ 1000 := by rw [← hnn]; exact h.len
 have HTB : Hid (∀ W, Below w.heap.size w W → Tk base W T M who S.ops (.slice (some ⟨g, 0, none⟩) n c) B) := fun W hb => h.below hb
 have HTL : Hid (T < w.heap.size) := h.lt
 have HGT : Hid (g < w.heap.size ∧ g ≠ T) := by
  obtain ⟨g9, c9, e, h1, h2, h3⟩ := h.shape (by intro e; rw [e] at hA; simp at hA)
  injection e with e _ _
  injection e with e
  injection e with e
  subst e
  exact ⟨h2, h3⟩
 have HT1 : Hid (∀ W, Below w.heap.size w W → W.cell? ⟨T, 1, none⟩ = some (.slice (some ⟨g, 0, none⟩) n c)) := fun W hb => blk_cell (h.below hb).blk (i := 1) rfl
 have hlf := (leaf_ok h.ok hh)
 rw [leaf_get hh] at hlf
 have HST : Hid (stB ((xa, xb), t, p, c0, ss) B = B.set (ahd B p.toList) ((B.getD (ahd B p.toList) none0).1, (B.getD (ahd B p.toList) none0).2.1, true)) := st_set h.ok hh
 have HWI : Hid (betE who ((xa, xb), t, p, c0, ss) B = 0 → wrB who ((xa, xb), t, p, c0, ss) B = insB B (ahd B p.toList + 1) (newP who ((xa, xb), t, p, c0, ss) B, let' ((xa, xb), t, p, c0, ss) B, false)) := fun hE => wr_ins h.ok hh hE
 have HLG : Hid (leafAt B p = B.getD (ahd B p.toList) none0) := leaf_get hh
 have CF : Hid (∀ W, Below w.heap.size w W → Calls Tryz.prog 64 #[.slice (some ⟨g, 0, none⟩) n c, .string p] W fun e w' => e = .returned (.tuple #[.int .i64 (ahd B p.toList), .bool true]) ∧ Below W.heap.size W w') := fun W hb => by
  have t9 := h.below hb
  have := Ld.find_any (some ⟨g, 0, none⟩) n c B p W hnn (Or.inr ⟨g, 0, rfl, fun j hj => t9.at hj⟩) h.ok.rise (by omega)
  rw [hh] at this; exact this
 have HFR : Hid (∀ W, Below w.heap.size w W → ∀ k, W.frozen? ⟨g, k, none⟩ = false) := fun W hb k => by
  obtain ⟨_, cur, hc⟩ := own_lt (h.below hb).book g rfl
  exact blk_free hc
 have HMC : Hid (∀ W, Below w.heap.size w W → MapC W M S.ops) := fun W hb => (h.below hb).map
 have HBH : Hid (bhd B (ahd B p.toList) = behind B p) := rfl
 obtain ⟨A, hAe⟩ : ∃ A, ahd B p.toList = A := ⟨_, rfl⟩
 rw [hAe] at hA hlf HST HWI HLG CF HBH
 obtain ⟨⟨lp, lt, ls⟩, hx⟩ : ∃ x, B.getD A none0 = x := ⟨_, rfl⟩
 rw [hx] at hlf HST HLG
 obtain ⟨hle, hlp⟩ := hlf
 dsimp only at hlp
 subst hlp
 have HX : Hid (B.getD A none0 = (lp, lt, ls)) := hx
 have hAn : A < n := by omega
 have hAz : (A : Int) < n := by omega
 have HCL : Hid (∀ W, Below w.heap.size w W → W.cell? ⟨g, A * 3, none⟩ = some (.string lp) ∧ W.cell? ⟨g, A * 3 + 1, none⟩ = some (.int .i64 lt) ∧ W.cell? ⟨g, A * 3 + 2, none⟩ = some (.bool ls) ∧ W.cell? ⟨T, 1, none⟩ = some (.slice (some ⟨g, 0, none⟩) n c) ∧ W.cell? ⟨T, 2, none⟩ = some (.map (some M))) := fun W hb => by
  have t9 := h.below hb
  have a := t9.at hA
  rw [hx] at a
  obtain ⟨a1, a2, a3⟩ := a
  rw [Nat.zero_add] at a1 a2 a3
  exact ⟨a1, a2, a3, blk_cell t9.blk (i := 1) rfl, blk_cell t9.blk (i := 2) rfl⟩
 have HSB : Hid (∀ W, Below w.heap.size w W → (W.setCell ⟨g, A * 3 + 2, none⟩ (.bool true)).ownsRow base 86 3 (.slice (some ⟨g, 0, none⟩) n c) (stB ((xa, xb), t, lp, c0, ss) B).length (flat (stB ((xa, xb), t, lp, c0, ss) B))) := fun W hb => by
  have hb9 := (h.below hb).book
  rw [hnn] at hb9
  have := own_set (A := A) (x := (lp, lt, true)) hb9 hnn hAn (by rw [hx]) (by rw [hx])
  rw [HST.out, List.length_set, hnn]; exact this
 have HKD : Hid (kindP S ((xa, xb), t, lp, c0, ss) B = if t = 1 ∧ Bm.isS (lp, lt, ls) = true then 1 else if t = 2 ∧ isL lt = true ∧ cnt S.ops lp = 1 then 2 else 0) := by
  unfold Hid kindP; dsimp only; rw [hh, if_neg (by simp), HLG.out]
 clear q0 q1 qb qz hh hA hAe hx HST
 generalize hops : S.ops = ops at h HTB HMC
 have HOPS : Hid (S.ops = ops) := hops
 by_cases ht1 : t = 1
 ·subst ht1
  cases hS : Bm.isS (lp, lt, ls) with
  | true =>
   have HK : Hid (kindP S ((xa, xb), 1, lp, c0, ss) B = 1) := by rw [Hid, HKD.out, if_pos ⟨rfl, hS⟩]
   clear HKD hops
   clear h
   go_enter Tryz.func39, Tryz.ntmps39
   go_wp2_with fail
   have d1 := HT1.out _ HQB.out
   have d3 := blk_cell HQ1.out (i := 3) (u := .string lp) rfl
   go_region_held3 (fun W => W.cell? ⟨T, 1, none⟩ = some (.slice (some ⟨g, 0, none⟩) n c) ∧ W.cell? ⟨w.heap.size, 3, none⟩ = some (.string lp)) (first | (go_keep; done) | (refine ⟨keep_cell hb7 ?_, keep_cell hb7 ?_⟩ <;> (first | assumption | (go_split_ands; assumption)))) (first
    | (go_at_call 64; refine (CF.out _ HQB.out.drew).mono ?_; rintro e w2 ⟨rfl, hb7⟩; have HB2 : Hid (Below w.heap.size w w2) := bel HQB.out.drew hb7; have HQ2 : Hid (w2.heap[w.heap.size]? = some (.cells #[.int .i64 xa, .int .i64 xb, .int .i64 1, .string lp, .int .i64 c0, .slice qs ns cs] 33)) := (by rw [Hid, hb7.block _ (by first | (simp; done) | (simp; omega))]; exact HQ1.out); have HR2 : Hid (w2.heap[w.heap.size + 1]? = some (.cells #[.int .i64 0, .int .i64 0, .int .i64 0, .string ⟨#[]⟩, .int .i64 0, .slice none 0 0] 33)) := (by rw [Hid, hb7.block _ (by first | (simp; done) | (simp; omega))]; exact HR1.out)))
   clear hb7 d1 d3 CF HQ1 HR1
   obtain ⟨f0, f1, f2, d1, d2⟩ := HCL.out w2 HB2.out
   have o2 := blk_cell HQ2.out (i := 2) (u := .int .i64 1) rfl
   have o3 := blk_cell HQ2.out (i := 3) (u := .string lp) rfl
   have CS := fun W => Lb.isSeen_any lp lt ls W
   rw [hS] at CS
   go_wp2_with fail
   refine (CS _).mono ?_
   rintro e w3 ⟨rfl, hb3⟩
   have HB3 : Hid (Below w.heap.size w w3) := bel HB2.out hb3
   have HQ3 : Hid (w3.heap[w.heap.size]? = some (.cells #[.int .i64 xa, .int .i64 xb, .int .i64 1, .string lp, .int .i64 c0, .slice qs ns cs] 33)) := (by rw [Hid, hb3.block _ (Array.getElem?_eq_some_iff.1 HQ2.out).1]; exact HQ2.out)
   have HR3 : Hid (w3.heap[w.heap.size + 1]? = some (.cells #[.int .i64 0, .int .i64 0, .int .i64 0, .string ⟨#[]⟩, .int .i64 0, .slice none 0 0] 33)) := (by rw [Hid, hb3.block _ (Array.getElem?_eq_some_iff.1 HR2.out).1]; exact HR2.out)
   clear hb3 CS f0 f1 f2 d1 d2 o2 o3 HB2 HQ2 HR2
   obtain ⟨f0, f1, f2, d1, d2⟩ := HCL.out w3 HB3.out
   have o2 := blk_cell HQ3.out (i := 2) (u := .int .i64 1) rfl
   have o3 := blk_cell HQ3.out (i := 3) (u := .string lp) rfl
   have HGC : Hid (w3.cell? ⟨g, A * 3 + 2, none⟩ = some (.bool ls) ∧ w3.frozen? ⟨g, A * 3 + 2, none⟩ = false) := ⟨f2, (HFR.out w3 HB3.out) _⟩
   have g2 := HGC.out.2
   have HR4 : Hid ((w3.setCell ⟨g, A * 3 + 2, none⟩ (.bool true)).heap[w.heap.size + 1]? = some (.cells #[.int .i64 0, .int .i64 0, .int .i64 0, .string ⟨#[]⟩, .int .i64 0, .slice none 0 0] 33)) := (by rw [Hid, set_block _ _ _ _ (by have := HGT.out.1; simp only; omega)]; exact HR3.out)
   have z0 := blk_cell HR4.out (i := 0) (u := .int .i64 0) rfl
   have y0 := blk_free HR4.out (i := 0)
   have z1 := blk_cell HR4.out (i := 1) (u := .int .i64 0) rfl
   have y1 := blk_free HR4.out (i := 1)
   have z2 := blk_cell HR4.out (i := 2) (u := .int .i64 0) rfl
   have y2 := blk_free HR4.out (i := 2)
   have z3 := blk_cell HR4.out (i := 3) (u := .string ⟨#[]⟩) rfl
   have y3 := blk_free HR4.out (i := 3)
   have z4 := blk_cell HR4.out (i := 4) (u := .int .i64 0) rfl
   have y4 := blk_free HR4.out (i := 4)
   have z5 := blk_cell HR4.out (i := 5) (u := .slice none 0 0) rfl
   have y5 := blk_free HR4.out (i := 5)
   have HW : Hid ((((((((w3.setCell ⟨g, A * 3 + 2, none⟩ (.bool true)).setCell ⟨w.heap.size + 1, 0, none⟩ (.int .i64 0)).setCell ⟨w.heap.size + 1, 1, none⟩ (.int .i64 0)).setCell ⟨w.heap.size + 1, 2, none⟩ (.int .i64 2)).setCell ⟨w.heap.size + 1, 3, none⟩ (.string lp)).setCell ⟨w.heap.size + 1, 4, none⟩ (.int .i64 0)).setCell ⟨w.heap.size + 1, 5, none⟩ (.slice none 0 0)).heap[w.heap.size + 1]? = some (.cells #[.int .i64 0, .int .i64 0, .int .i64 2, .string lp, .int .i64 0, .slice none 0 0] 33)) := put6_heap HR4.out
   have HC9 : Hid (Chg (fun k => k = T ∨ k = g) w (((((((w3.setCell ⟨g, A * 3 + 2, none⟩ (.bool true)).setCell ⟨w.heap.size + 1, 0, none⟩ (.int .i64 0)).setCell ⟨w.heap.size + 1, 1, none⟩ (.int .i64 0)).setCell ⟨w.heap.size + 1, 2, none⟩ (.int .i64 2)).setCell ⟨w.heap.size + 1, 3, none⟩ (.string lp)).setCell ⟨w.heap.size + 1, 4, none⟩ (.int .i64 0)).setCell ⟨w.heap.size + 1, 5, none⟩ (.slice none 0 0))) := put6_chg (chg_set (Chg.ofBelow HB3.out _) ⟨g, A * 3 + 2, none⟩ (Or.inl (Or.inr rfl)) _) _ (Or.inr (by omega)) _ _ _ _ _ _
   have HT9 : Hid ((((((((w3.setCell ⟨g, A * 3 + 2, none⟩ (.bool true)).setCell ⟨w.heap.size + 1, 0, none⟩ (.int .i64 0)).setCell ⟨w.heap.size + 1, 1, none⟩ (.int .i64 0)).setCell ⟨w.heap.size + 1, 2, none⟩ (.int .i64 2)).setCell ⟨w.heap.size + 1, 3, none⟩ (.string lp)).setCell ⟨w.heap.size + 1, 4, none⟩ (.int .i64 0)).setCell ⟨w.heap.size + 1, 5, none⟩ (.slice none 0 0)).heap[T]? = some (.cells #[.int .i64 who, .slice (some ⟨g, 0, none⟩) n c, .map (some M)] 97)) := by
    rw [Hid, put6_block _ _ _ _ _ _ _ _ _ (by have := HTL.out; omega), set_block _ _ _ _ (fun e => HGT.out.2 e.symm)]; exact (HTB.out w3 HB3.out).blk
   have HO9 : Hid ((((((((w3.setCell ⟨g, A * 3 + 2, none⟩ (.bool true)).setCell ⟨w.heap.size + 1, 0, none⟩ (.int .i64 0)).setCell ⟨w.heap.size + 1, 1, none⟩ (.int .i64 0)).setCell ⟨w.heap.size + 1, 2, none⟩ (.int .i64 2)).setCell ⟨w.heap.size + 1, 3, none⟩ (.string lp)).setCell ⟨w.heap.size + 1, 4, none⟩ (.int .i64 0)).setCell ⟨w.heap.size + 1, 5, none⟩ (.slice none 0 0)).ownsRow base 86 3 (.slice (some ⟨g, 0, none⟩) n c) (stB ((xa, xb), 1, lp, c0, ss) B).length (flat (stB ((xa, xb), 1, lp, c0, ss) B))) := by
    refine own_stay (HSB.out w3 HB3.out) fun k hk => put6_block _ _ _ _ _ _ _ _ _ ?_
    injection hk with hk
    have h9 : g = k := hk
    have := HGT.out.1
    omega
   have hgq : g ≠ w.heap.size := (by have := HGT.out.1; omega)
   have hgr : g ≠ w.heap.size + 1 := (by have := HGT.out.1; omega)
   clear HGC HR4
   go_wp2_with fail
   (try simp only [Exit.inBlock, Exit.then])
   generalize hWq : (((((((w3.setCell ⟨g, A * 3 + 2, none⟩ (.bool true)).setCell ⟨w.heap.size + 1, 0, none⟩ (.int .i64 0)).setCell ⟨w.heap.size + 1, 1, none⟩ (.int .i64 0)).setCell ⟨w.heap.size + 1, 2, none⟩ (.int .i64 2)).setCell ⟨w.heap.size + 1, 3, none⟩ (.string lp)).setCell ⟨w.heap.size + 1, 4, none⟩ (.int .i64 0)).setCell ⟨w.heap.size + 1, 5, none⟩ (.slice none 0 0)) = W at HW HC9 HT9 HO9 ⊢
   clear hWq z0 z1 z2 z3 z4 z5 y0 y1 y2 y3 y4 y5 f0 f1 f2 d1 d2 o2 o3 g2
   refine bodyPost_ret (v := .tuple #[.agg #[.int .i64 0, .int .i64 0, .int .i64 2, .string lp, .int .i64 0, .slice none 0 0], .bool true, .nilIface]) ?_ rfl ?_
   ·simp [results]
    rw [show (asAddr (Value.pointer (some ⟨w.heap.size + 1, 0, none⟩))).run Tryz.prog W = .ok ⟨w.heap.size + 1, 0, none⟩ W from rfl]
    simp [If.load_op HW.out, Result.andThen]
    (try rfl)
   ·exact Or.inr (Or.inl ⟨HK.out, rfl, ⟨_, HT9.out, HO9.out⟩, HC9.out⟩)
  | false =>
   have HK : Hid (kindP S ((xa, xb), 1, lp, c0, ss) B = 0) := by rw [Hid, HKD.out, if_neg (by rw [hS]; simp), if_neg (by simp)]
   clear HKD hops
   clear h
   go_enter Tryz.func39, Tryz.ntmps39
   go_wp2_with fail
   have d1 := HT1.out _ HQB.out
   have d3 := blk_cell HQ1.out (i := 3) (u := .string lp) rfl
   go_region_held3 (fun W => W.cell? ⟨T, 1, none⟩ = some (.slice (some ⟨g, 0, none⟩) n c) ∧ W.cell? ⟨w.heap.size, 3, none⟩ = some (.string lp)) (first | (go_keep; done) | (refine ⟨keep_cell hb7 ?_, keep_cell hb7 ?_⟩ <;> (first | assumption | (go_split_ands; assumption)))) (first
    | (go_at_call 64; refine (CF.out _ HQB.out.drew).mono ?_; rintro e w2 ⟨rfl, hb7⟩; have HB2 : Hid (Below w.heap.size w w2) := bel HQB.out.drew hb7; have HQ2 : Hid (w2.heap[w.heap.size]? = some (.cells #[.int .i64 xa, .int .i64 xb, .int .i64 1, .string lp, .int .i64 c0, .slice qs ns cs] 33)) := (by rw [Hid, hb7.block _ (by first | (simp; done) | (simp; omega))]; exact HQ1.out); have HR2 : Hid (w2.heap[w.heap.size + 1]? = some (.cells #[.int .i64 0, .int .i64 0, .int .i64 0, .string ⟨#[]⟩, .int .i64 0, .slice none 0 0] 33)) := (by rw [Hid, hb7.block _ (by first | (simp; done) | (simp; omega))]; exact HR1.out)))
   clear hb7 d1 d3 CF HQ1 HR1
   obtain ⟨f0, f1, f2, d1, d2⟩ := HCL.out w2 HB2.out
   have o2 := blk_cell HQ2.out (i := 2) (u := .int .i64 1) rfl
   have o3 := blk_cell HQ2.out (i := 3) (u := .string lp) rfl
   have CS := fun W => Lb.isSeen_any lp lt ls W
   rw [hS] at CS
   go_wp2_with fail
   refine (CS _).mono ?_
   rintro e w3 ⟨rfl, hb3⟩
   have HB3 : Hid (Below w.heap.size w w3) := bel HB2.out hb3
   have HQ3 : Hid (w3.heap[w.heap.size]? = some (.cells #[.int .i64 xa, .int .i64 xb, .int .i64 1, .string lp, .int .i64 c0, .slice qs ns cs] 33)) := (by rw [Hid, hb3.block _ (Array.getElem?_eq_some_iff.1 HQ2.out).1]; exact HQ2.out)
   have HR3 : Hid (w3.heap[w.heap.size + 1]? = some (.cells #[.int .i64 0, .int .i64 0, .int .i64 0, .string ⟨#[]⟩, .int .i64 0, .slice none 0 0] 33)) := (by rw [Hid, hb3.block _ (Array.getElem?_eq_some_iff.1 HR2.out).1]; exact HR2.out)
   clear hb3 CS f0 f1 f2 d1 d2 o2 o3 HB2 HQ2 HR2
   obtain ⟨f0, f1, f2, d1, d2⟩ := HCL.out w3 HB3.out
   have o2 := blk_cell HQ3.out (i := 2) (u := .int .i64 1) rfl
   have o3 := blk_cell HQ3.out (i := 3) (u := .string lp) rfl
   go_wp2_with fail
   have hlk := fun k => MapC.look (HMC.out _ (bel_drew HB3.out k)) lp
   go_quiet (fail)
   generalize hw4 : World.drewN _ _ = w4
   have HB4 : Hid (Below w.heap.size w w4) := by rw [Hid, ← hw4]; exact bel_drew HB3.out _
   have HQ4 : Hid (w4.heap[w.heap.size]? = some (.cells #[.int .i64 xa, .int .i64 xb, .int .i64 1, .string lp, .int .i64 c0, .slice qs ns cs] 33)) := by rw [Hid, ← hw4]; exact HQ3.out
   have HR4 : Hid (w4.heap[w.heap.size + 1]? = some (.cells #[.int .i64 0, .int .i64 0, .int .i64 0, .string ⟨#[]⟩, .int .i64 0, .slice none 0 0] 33)) := by rw [Hid, ← hw4]; exact HR3.out
   clear hw4 hlk f0 f1 f2 d1 d2 o2 o3 HB3 HQ3 HR3
   have z0 := blk_cell HR4.out (i := 0) (u := .int .i64 0) rfl
   have y0 := blk_free HR4.out (i := 0)
   have z1 := blk_cell HR4.out (i := 1) (u := .int .i64 0) rfl
   have y1 := blk_free HR4.out (i := 1)
   have z2 := blk_cell HR4.out (i := 2) (u := .int .i64 0) rfl
   have y2 := blk_free HR4.out (i := 2)
   have z3 := blk_cell HR4.out (i := 3) (u := .string ⟨#[]⟩) rfl
   have y3 := blk_free HR4.out (i := 3)
   have z4 := blk_cell HR4.out (i := 4) (u := .int .i64 0) rfl
   have y4 := blk_free HR4.out (i := 4)
   have z5 := blk_cell HR4.out (i := 5) (u := .slice none 0 0) rfl
   have y5 := blk_free HR4.out (i := 5)
   have HW : Hid (((((((w4.setCell ⟨w.heap.size + 1, 0, none⟩ (.int .i64 0)).setCell ⟨w.heap.size + 1, 1, none⟩ (.int .i64 0)).setCell ⟨w.heap.size + 1, 2, none⟩ (.int .i64 0)).setCell ⟨w.heap.size + 1, 3, none⟩ (.string ⟨#[]⟩)).setCell ⟨w.heap.size + 1, 4, none⟩ (.int .i64 0)).setCell ⟨w.heap.size + 1, 5, none⟩ (.slice none 0 0)).heap[w.heap.size + 1]? = some (.cells #[.int .i64 0, .int .i64 0, .int .i64 0, .string ⟨#[]⟩, .int .i64 0, .slice none 0 0] 33)) := put6_heap HR4.out
   have HC9 : Hid (Chg (fun _ => False) w ((((((w4.setCell ⟨w.heap.size + 1, 0, none⟩ (.int .i64 0)).setCell ⟨w.heap.size + 1, 1, none⟩ (.int .i64 0)).setCell ⟨w.heap.size + 1, 2, none⟩ (.int .i64 0)).setCell ⟨w.heap.size + 1, 3, none⟩ (.string ⟨#[]⟩)).setCell ⟨w.heap.size + 1, 4, none⟩ (.int .i64 0)).setCell ⟨w.heap.size + 1, 5, none⟩ (.slice none 0 0))) := put6_chg (Chg.ofBelow HB4.out _) _ (Or.inr (by omega)) _ _ _ _ _ _
   go_wp2_with fail
   (try simp only [Exit.inBlock, Exit.then])
   generalize hWq : ((((((w4.setCell ⟨w.heap.size + 1, 0, none⟩ (.int .i64 0)).setCell ⟨w.heap.size + 1, 1, none⟩ (.int .i64 0)).setCell ⟨w.heap.size + 1, 2, none⟩ (.int .i64 0)).setCell ⟨w.heap.size + 1, 3, none⟩ (.string ⟨#[]⟩)).setCell ⟨w.heap.size + 1, 4, none⟩ (.int .i64 0)).setCell ⟨w.heap.size + 1, 5, none⟩ (.slice none 0 0)) = W at HW HC9 ⊢
   clear hWq z0 z1 z2 z3 z4 z5 y0 y1 y2 y3 y4 y5 
   refine bodyPost_ret (v := .tuple #[opZ, .bool false, .nilIface]) ?_ rfl ?_
   ·simp [results]
    rw [show (asAddr (Value.pointer (some ⟨w.heap.size + 1, 0, none⟩))).run Tryz.prog W = .ok ⟨w.heap.size + 1, 0, none⟩ W from rfl]
    simp [If.load_op HW.out, Result.andThen]
    (try rfl)
   ·exact Or.inl ⟨HK.out, rfl, chg_none HC9.out⟩
 ·have t1b : (t == 1) = false := by simpa using ht1
  by_cases ht2 : t = 2
  ·subst ht2
   cases hL : isL lt with
   | false =>
    have HK : Hid (kindP S ((xa, xb), 2, lp, c0, ss) B = 0) := by rw [Hid, HKD.out, if_neg (by simp), if_neg (by rw [hL]; simp)]
    clear HKD hops ht1 t1b
    clear h
    go_enter Tryz.func39, Tryz.ntmps39
    go_wp2_with fail
    have d1 := HT1.out _ HQB.out
    have d3 := blk_cell HQ1.out (i := 3) (u := .string lp) rfl
    go_region_held3 (fun W => W.cell? ⟨T, 1, none⟩ = some (.slice (some ⟨g, 0, none⟩) n c) ∧ W.cell? ⟨w.heap.size, 3, none⟩ = some (.string lp)) (first | (go_keep; done) | (refine ⟨keep_cell hb7 ?_, keep_cell hb7 ?_⟩ <;> (first | assumption | (go_split_ands; assumption)))) (first
     | (go_at_call 64; refine (CF.out _ HQB.out.drew).mono ?_; rintro e w2 ⟨rfl, hb7⟩; have HB2 : Hid (Below w.heap.size w w2) := bel HQB.out.drew hb7; have HQ2 : Hid (w2.heap[w.heap.size]? = some (.cells #[.int .i64 xa, .int .i64 xb, .int .i64 2, .string lp, .int .i64 c0, .slice qs ns cs] 33)) := (by rw [Hid, hb7.block _ (by first | (simp; done) | (simp; omega))]; exact HQ1.out); have HR2 : Hid (w2.heap[w.heap.size + 1]? = some (.cells #[.int .i64 0, .int .i64 0, .int .i64 0, .string ⟨#[]⟩, .int .i64 0, .slice none 0 0] 33)) := (by rw [Hid, hb7.block _ (by first | (simp; done) | (simp; omega))]; exact HR1.out)))
    clear hb7 d1 d3 CF HQ1 HR1
    obtain ⟨f0, f1, f2, d1, d2⟩ := HCL.out w2 HB2.out
    have o2 := blk_cell HQ2.out (i := 2) (u := .int .i64 2) rfl
    have o3 := blk_cell HQ2.out (i := 3) (u := .string lp) rfl
    have CL := fun W => Lb.isLetter_any lt W
    rw [hL] at CL
    go_wp2_with fail
    have hlk := fun k => MapC.look (HMC.out _ (bel_drew HB2.out k)) lp
    go_quiet (exact Calls.quiet_of_same (CL _))
    generalize hw4 : World.drewN _ _ = w4
    have HB4 : Hid (Below w.heap.size w w4) := by rw [Hid, ← hw4]; exact bel_drew HB2.out _
    have HQ4 : Hid (w4.heap[w.heap.size]? = some (.cells #[.int .i64 xa, .int .i64 xb, .int .i64 2, .string lp, .int .i64 c0, .slice qs ns cs] 33)) := by rw [Hid, ← hw4]; exact HQ2.out
    have HR4 : Hid (w4.heap[w.heap.size + 1]? = some (.cells #[.int .i64 0, .int .i64 0, .int .i64 0, .string ⟨#[]⟩, .int .i64 0, .slice none 0 0] 33)) := by rw [Hid, ← hw4]; exact HR2.out
    clear hw4 hlk f0 f1 f2 d1 d2 o2 o3 HB2 HQ2 HR2
    have z0 := blk_cell HR4.out (i := 0) (u := .int .i64 0) rfl
    have y0 := blk_free HR4.out (i := 0)
    have z1 := blk_cell HR4.out (i := 1) (u := .int .i64 0) rfl
    have y1 := blk_free HR4.out (i := 1)
    have z2 := blk_cell HR4.out (i := 2) (u := .int .i64 0) rfl
    have y2 := blk_free HR4.out (i := 2)
    have z3 := blk_cell HR4.out (i := 3) (u := .string ⟨#[]⟩) rfl
    have y3 := blk_free HR4.out (i := 3)
    have z4 := blk_cell HR4.out (i := 4) (u := .int .i64 0) rfl
    have y4 := blk_free HR4.out (i := 4)
    have z5 := blk_cell HR4.out (i := 5) (u := .slice none 0 0) rfl
    have y5 := blk_free HR4.out (i := 5)
    have HW : Hid (((((((w4.setCell ⟨w.heap.size + 1, 0, none⟩ (.int .i64 0)).setCell ⟨w.heap.size + 1, 1, none⟩ (.int .i64 0)).setCell ⟨w.heap.size + 1, 2, none⟩ (.int .i64 0)).setCell ⟨w.heap.size + 1, 3, none⟩ (.string ⟨#[]⟩)).setCell ⟨w.heap.size + 1, 4, none⟩ (.int .i64 0)).setCell ⟨w.heap.size + 1, 5, none⟩ (.slice none 0 0)).heap[w.heap.size + 1]? = some (.cells #[.int .i64 0, .int .i64 0, .int .i64 0, .string ⟨#[]⟩, .int .i64 0, .slice none 0 0] 33)) := put6_heap HR4.out
    have HC9 : Hid (Chg (fun _ => False) w ((((((w4.setCell ⟨w.heap.size + 1, 0, none⟩ (.int .i64 0)).setCell ⟨w.heap.size + 1, 1, none⟩ (.int .i64 0)).setCell ⟨w.heap.size + 1, 2, none⟩ (.int .i64 0)).setCell ⟨w.heap.size + 1, 3, none⟩ (.string ⟨#[]⟩)).setCell ⟨w.heap.size + 1, 4, none⟩ (.int .i64 0)).setCell ⟨w.heap.size + 1, 5, none⟩ (.slice none 0 0))) := put6_chg (Chg.ofBelow HB4.out _) _ (Or.inr (by omega)) _ _ _ _ _ _
    go_wp2_with fail
    (try simp only [Exit.inBlock, Exit.then])
    generalize hWq : ((((((w4.setCell ⟨w.heap.size + 1, 0, none⟩ (.int .i64 0)).setCell ⟨w.heap.size + 1, 1, none⟩ (.int .i64 0)).setCell ⟨w.heap.size + 1, 2, none⟩ (.int .i64 0)).setCell ⟨w.heap.size + 1, 3, none⟩ (.string ⟨#[]⟩)).setCell ⟨w.heap.size + 1, 4, none⟩ (.int .i64 0)).setCell ⟨w.heap.size + 1, 5, none⟩ (.slice none 0 0)) = W at HW HC9 ⊢
    clear hWq z0 z1 z2 z3 z4 z5 y0 y1 y2 y3 y4 y5 
    refine bodyPost_ret (v := .tuple #[opZ, .bool false, .nilIface]) ?_ rfl ?_
    ·simp [results]
     rw [show (asAddr (Value.pointer (some ⟨w.heap.size + 1, 0, none⟩))).run Tryz.prog W = .ok ⟨w.heap.size + 1, 0, none⟩ W from rfl]
     simp [If.load_op HW.out, Result.andThen]
     (try rfl)
    ·exact Or.inl ⟨HK.out, rfl, chg_none HC9.out⟩
   | true =>
    by_cases hc : cnt S.ops lp = 1
    ·have HK : Hid (kindP S ((xa, xb), 2, lp, c0, ss) B = 2) := by rw [Hid, HKD.out, if_neg (by simp), if_pos ⟨rfl, hL, hc⟩]
     rw [hops] at hc
     have hcb : ((cnt ops lp : Int) == 1) = true := by rw [hc]; rfl
     clear HKD hops ht1 t1b
     clear h
     go_enter Tryz.func39, Tryz.ntmps39
     go_wp2_with fail
     have d1 := HT1.out _ HQB.out
     have d3 := blk_cell HQ1.out (i := 3) (u := .string lp) rfl
     go_region_held3 (fun W => W.cell? ⟨T, 1, none⟩ = some (.slice (some ⟨g, 0, none⟩) n c) ∧ W.cell? ⟨w.heap.size, 3, none⟩ = some (.string lp)) (first | (go_keep; done) | (refine ⟨keep_cell hb7 ?_, keep_cell hb7 ?_⟩ <;> (first | assumption | (go_split_ands; assumption)))) (first
      | (go_at_call 64; refine (CF.out _ HQB.out.drew).mono ?_; rintro e w2 ⟨rfl, hb7⟩; have HB2 : Hid (Below w.heap.size w w2) := bel HQB.out.drew hb7; have HQ2 : Hid (w2.heap[w.heap.size]? = some (.cells #[.int .i64 xa, .int .i64 xb, .int .i64 2, .string lp, .int .i64 c0, .slice qs ns cs] 33)) := (by rw [Hid, hb7.block _ (by first | (simp; done) | (simp; omega))]; exact HQ1.out); have HR2 : Hid (w2.heap[w.heap.size + 1]? = some (.cells #[.int .i64 0, .int .i64 0, .int .i64 0, .string ⟨#[]⟩, .int .i64 0, .slice none 0 0] 33)) := (by rw [Hid, hb7.block _ (by first | (simp; done) | (simp; omega))]; exact HR1.out)))
     clear hb7 d1 d3 CF HQ1 HR1
     obtain ⟨f0, f1, f2, d1, d2⟩ := HCL.out w2 HB2.out
     have o2 := blk_cell HQ2.out (i := 2) (u := .int .i64 2) rfl
     have o3 := blk_cell HQ2.out (i := 3) (u := .string lp) rfl
     have CL := fun W => Lb.isLetter_any lt W
     rw [hL] at CL
     go_wp2_with fail
     have hlk := fun k => MapC.look (HMC.out _ (bel_drew HB2.out k)) lp
     go_quiet (exact Calls.quiet_of_same (CL _))
     generalize hw4 : World.drewN _ _ = w4
     have HB4 : Hid (Below w.heap.size w w4) := by rw [Hid, ← hw4]; exact bel_drew HB2.out _
     have HQ4 : Hid (w4.heap[w.heap.size]? = some (.cells #[.int .i64 xa, .int .i64 xb, .int .i64 2, .string lp, .int .i64 c0, .slice qs ns cs] 33)) := by rw [Hid, ← hw4]; exact HQ2.out
     have HR4 : Hid (w4.heap[w.heap.size + 1]? = some (.cells #[.int .i64 0, .int .i64 0, .int .i64 0, .string ⟨#[]⟩, .int .i64 0, .slice none 0 0] 33)) := by rw [Hid, ← hw4]; exact HR2.out
     clear hw4 hlk f0 f1 f2 d1 d2 o2 o3 HB2 HQ2 HR2
     have CA := anew_any base T M who ops g n c B A w4 (HTB.out w4 HB4.out) HN.out hAn
     go_wp2_with fail
     refine CA.mono ?_
     rintro e w5 (⟨hE, rfl, hb5⟩ | ⟨hE, rfl, ⟨v5, hT5, hO5⟩, hc5⟩)
     ·have HEQ : Hid (betE who ((xa, xb), 2, lp, c0, ss) B = Pm.betErr lp.toList (bhd B A).toList who) := by rw [Hid, HBH.out]; rfl
      rw [HX.out] at hE
      dsimp only at hE
      rw [← HEQ.out] at hE
      have HR5 : Hid (w5.heap[w.heap.size + 1]? = some (.cells #[.int .i64 0, .int .i64 0, .int .i64 0, .string ⟨#[]⟩, .int .i64 0, .slice none 0 0] 33)) := by rw [Hid, hb5.block _ (Array.getElem?_eq_some_iff.1 HR4.out).1]; exact HR4.out
      have HB5 : Hid (Below w.heap.size w w5) := bel HB4.out hb5
      have HE : Hid (betE who ((xa, xb), 2, lp, c0, ss) B ≠ 0) := hE
      rw [HX.out]
      dsimp only
      rw [← HEQ.out, errV_ne hE]
      obtain ⟨E, hEE⟩ : ∃ E, betE who ((xa, xb), 2, lp, c0, ss) B = E := ⟨_, rfl⟩
      have HEE : Hid (betE who ((xa, xb), 2, lp, c0, ss) B = E) := hEE
      rw [hEE]
      unfold opZ
      clear hb5 hE hEE CA HEQ
      obtain ⟨w6, hw6⟩ : ∃ w6, w6 = (w5.alloc (.cells #[.int .i64 0, .int .i64 0, .int .i64 0, .string ⟨#[]⟩, .int .i64 0, .slice none 0 0] 33)) := ⟨_, rfl⟩
      have HA6 : Hid (w6.heap[w5.heap.size]? = some (.cells #[.int .i64 0, .int .i64 0, .int .i64 0, .string ⟨#[]⟩, .int .i64 0, .slice none 0 0] 33)) := by rw [Hid, hw6]; exact heap_alloc_new w5 _
      have HB6 : Hid (Below w5.heap.size w5 w6) := by rw [Hid, hw6]; exact (Below.refl _ _).alloc (Nat.le_refl _) _
      have hR5l : w.heap.size + 1 < w5.heap.size := (Array.getElem?_eq_some_iff.1 HR5.out).1
      have HR6 : Hid (w6.heap[w.heap.size + 1]? = some (.cells #[.int .i64 0, .int .i64 0, .int .i64 0, .string ⟨#[]⟩, .int .i64 0, .slice none 0 0] 33)) := by rw [Hid, HB6.out.block _ hR5l]; exact HR5.out
      have HAR : Hid (w5.heap.size ≠ w.heap.size + 1) := Nat.ne_of_gt hR5l
      go_wp2_with fail
      rw [← hw6]
      clear hw6
      have z0 : w6.drew.cell? ⟨w.heap.size + 1, 0, none⟩ = some (.int .i64 0) := blk_cell HR6.out (i := 0) rfl
      have y0 : w6.drew.frozen? ⟨w.heap.size + 1, 0, none⟩ = false := blk_free HR6.out (i := 0)
      have zz0 : w6.cell? ⟨w.heap.size + 1, 0, none⟩ = some (.int .i64 0) := blk_cell HR6.out (i := 0) rfl
      have yy0 : w6.frozen? ⟨w.heap.size + 1, 0, none⟩ = false := blk_free HR6.out (i := 0)
      have z1 : w6.drew.cell? ⟨w.heap.size + 1, 1, none⟩ = some (.int .i64 0) := blk_cell HR6.out (i := 1) rfl
      have y1 : w6.drew.frozen? ⟨w.heap.size + 1, 1, none⟩ = false := blk_free HR6.out (i := 1)
      have zz1 : w6.cell? ⟨w.heap.size + 1, 1, none⟩ = some (.int .i64 0) := blk_cell HR6.out (i := 1) rfl
      have yy1 : w6.frozen? ⟨w.heap.size + 1, 1, none⟩ = false := blk_free HR6.out (i := 1)
      have z2 : w6.drew.cell? ⟨w.heap.size + 1, 2, none⟩ = some (.int .i64 0) := blk_cell HR6.out (i := 2) rfl
      have y2 : w6.drew.frozen? ⟨w.heap.size + 1, 2, none⟩ = false := blk_free HR6.out (i := 2)
      have zz2 : w6.cell? ⟨w.heap.size + 1, 2, none⟩ = some (.int .i64 0) := blk_cell HR6.out (i := 2) rfl
      have yy2 : w6.frozen? ⟨w.heap.size + 1, 2, none⟩ = false := blk_free HR6.out (i := 2)
      have z3 : w6.drew.cell? ⟨w.heap.size + 1, 3, none⟩ = some (.string ⟨#[]⟩) := blk_cell HR6.out (i := 3) rfl
      have y3 : w6.drew.frozen? ⟨w.heap.size + 1, 3, none⟩ = false := blk_free HR6.out (i := 3)
      have zz3 : w6.cell? ⟨w.heap.size + 1, 3, none⟩ = some (.string ⟨#[]⟩) := blk_cell HR6.out (i := 3) rfl
      have yy3 : w6.frozen? ⟨w.heap.size + 1, 3, none⟩ = false := blk_free HR6.out (i := 3)
      have z4 : w6.drew.cell? ⟨w.heap.size + 1, 4, none⟩ = some (.int .i64 0) := blk_cell HR6.out (i := 4) rfl
      have y4 : w6.drew.frozen? ⟨w.heap.size + 1, 4, none⟩ = false := blk_free HR6.out (i := 4)
      have zz4 : w6.cell? ⟨w.heap.size + 1, 4, none⟩ = some (.int .i64 0) := blk_cell HR6.out (i := 4) rfl
      have yy4 : w6.frozen? ⟨w.heap.size + 1, 4, none⟩ = false := blk_free HR6.out (i := 4)
      have z5 : w6.drew.cell? ⟨w.heap.size + 1, 5, none⟩ = some (.slice none 0 0) := blk_cell HR6.out (i := 5) rfl
      have y5 : w6.drew.frozen? ⟨w.heap.size + 1, 5, none⟩ = false := blk_free HR6.out (i := 5)
      have zz5 : w6.cell? ⟨w.heap.size + 1, 5, none⟩ = some (.slice none 0 0) := blk_cell HR6.out (i := 5) rfl
      have yy5 : w6.frozen? ⟨w.heap.size + 1, 5, none⟩ = false := blk_free HR6.out (i := 5)
      have s0 : w6.drew.cell? ⟨w5.heap.size, 0, none⟩ = some (.int .i64 0) := blk_cell HA6.out (i := 0) rfl
      have s1 : w6.drew.cell? ⟨w5.heap.size, 1, none⟩ = some (.int .i64 0) := blk_cell HA6.out (i := 1) rfl
      have s2 : w6.drew.cell? ⟨w5.heap.size, 2, none⟩ = some (.int .i64 0) := blk_cell HA6.out (i := 2) rfl
      have s3 : w6.drew.cell? ⟨w5.heap.size, 3, none⟩ = some (.string ⟨#[]⟩) := blk_cell HA6.out (i := 3) rfl
      have s4 : w6.drew.cell? ⟨w5.heap.size, 4, none⟩ = some (.int .i64 0) := blk_cell HA6.out (i := 4) rfl
      have s5 : w6.drew.cell? ⟨w5.heap.size, 5, none⟩ = some (.slice none 0 0) := blk_cell HA6.out (i := 5) rfl
      have hAR := HAR.out
      have ss0 : w6.cell? ⟨w5.heap.size, 0, none⟩ = some (.int .i64 0) := blk_cell HA6.out (i := 0) rfl
      have ss1 : w6.cell? ⟨w5.heap.size, 1, none⟩ = some (.int .i64 0) := blk_cell HA6.out (i := 1) rfl
      have ss2 : w6.cell? ⟨w5.heap.size, 2, none⟩ = some (.int .i64 0) := blk_cell HA6.out (i := 2) rfl
      have ss3 : w6.cell? ⟨w5.heap.size, 3, none⟩ = some (.string ⟨#[]⟩) := blk_cell HA6.out (i := 3) rfl
      have ss4 : w6.cell? ⟨w5.heap.size, 4, none⟩ = some (.int .i64 0) := blk_cell HA6.out (i := 4) rfl
      have ss5 : w6.cell? ⟨w5.heap.size, 5, none⟩ = some (.slice none 0 0) := blk_cell HA6.out (i := 5) rfl
      go_region_held3 (fun W => W.cell? ⟨w5.heap.size, 0, none⟩ = some (.int .i64 0) ∧ W.cell? ⟨w5.heap.size, 1, none⟩ = some (.int .i64 0) ∧ W.cell? ⟨w5.heap.size, 2, none⟩ = some (.int .i64 0) ∧ W.cell? ⟨w5.heap.size, 3, none⟩ = some (.string ⟨#[]⟩) ∧ W.cell? ⟨w5.heap.size, 4, none⟩ = some (.int .i64 0) ∧ W.cell? ⟨w5.heap.size, 5, none⟩ = some (.slice none 0 0)) (first | (go_keep; done) | (refine ⟨?_, ?_, ?_, ?_, ?_, ?_⟩ <;> (rw [World.cell?_drew, cell_oth hAR, cell_oth hAR, cell_oth hAR, cell_oth hAR, cell_oth hAR, cell_oth hAR]; assumption)) | (refine ⟨?_, ?_, ?_, ?_, ?_, ?_⟩ <;> (rw [cell_oth hAR, cell_oth hAR, cell_oth hAR, cell_oth hAR, cell_oth hAR, cell_oth hAR]; assumption))) (fail)
      have HW : Hid (((((((w6.setCell ⟨w.heap.size + 1, 0, none⟩ (.int .i64 0)).setCell ⟨w.heap.size + 1, 1, none⟩ (.int .i64 0)).setCell ⟨w.heap.size + 1, 2, none⟩ (.int .i64 0)).setCell ⟨w.heap.size + 1, 3, none⟩ (.string ⟨#[]⟩)).setCell ⟨w.heap.size + 1, 4, none⟩ (.int .i64 0)).setCell ⟨w.heap.size + 1, 5, none⟩ (.slice none 0 0)).heap[w.heap.size + 1]? = some (.cells #[.int .i64 0, .int .i64 0, .int .i64 0, .string ⟨#[]⟩, .int .i64 0, .slice none 0 0] 33)) := put6_heap HR6.out
      have HC9 : Hid (Chg (fun _ => False) w ((((((w6.setCell ⟨w.heap.size + 1, 0, none⟩ (.int .i64 0)).setCell ⟨w.heap.size + 1, 1, none⟩ (.int .i64 0)).setCell ⟨w.heap.size + 1, 2, none⟩ (.int .i64 0)).setCell ⟨w.heap.size + 1, 3, none⟩ (.string ⟨#[]⟩)).setCell ⟨w.heap.size + 1, 4, none⟩ (.int .i64 0)).setCell ⟨w.heap.size + 1, 5, none⟩ (.slice none 0 0))) := put6_chg (Chg.ofBelow (bel HB5.out HB6.out) _) _ (Or.inr (by omega)) _ _ _ _ _ _
      generalize hP0 : ((((((w6.setCell ⟨w.heap.size + 1, 0, none⟩ (.int .i64 0)).setCell ⟨w.heap.size + 1, 1, none⟩ (.int .i64 0)).setCell ⟨w.heap.size + 1, 2, none⟩ (.int .i64 0)).setCell ⟨w.heap.size + 1, 3, none⟩ (.string ⟨#[]⟩)).setCell ⟨w.heap.size + 1, 4, none⟩ (.int .i64 0)).setCell ⟨w.heap.size + 1, 5, none⟩ (.slice none 0 0)) = W9 at HW HC9 ⊢
      clear hP0
      have HWd : Hid (W9.drew.heap[w.heap.size + 1]? = some (.cells #[.int .i64 0, .int .i64 0, .int .i64 0, .string ⟨#[]⟩, .int .i64 0, .slice none 0 0] 33)) := HW.out
      clear HW
      have HW := HWd
      clear HWd
      have HCd : Hid (Chg (fun _ => False) w W9.drew) := chg_drew HC9.out
      clear HC9
      have HC9 := HCd
      clear HCd
      clear s0 s1 s2 s3 s4 s5 ss0 ss1 ss2 ss3 ss4 ss5 zz0 zz1 zz2 zz3 zz4 zz5 yy0 yy1 yy2 yy3 yy4 yy5
      go_wp2_with fail
      (try simp only [Exit.inBlock, Exit.then])
      generalize hWq : W9.drew = W at HW HC9 ⊢
      clear hWq z0 z1 z2 z3 z4 z5 y0 y1 y2 y3 y4 y5 
      refine bodyPost_ret (v := .tuple #[opZ, .bool false, .iface 76 (.int .i64 E)]) ?_ rfl ?_
      ·simp [results]
       rw [show (asAddr (Value.pointer (some ⟨w.heap.size + 1, 0, none⟩))).run Tryz.prog W = .ok ⟨w.heap.size + 1, 0, none⟩ W from rfl]
       simp [If.load_op HW.out, Result.andThen]
       (try rfl)
      ·exact Or.inr (Or.inr (Or.inl ⟨HK.out, HE.out, by rw [HEE.out, errV_ne (by have := HE.out; rw [HEE.out] at this; exact this)], chg_none HC9.out⟩))
     ·have HEQ : Hid (betE who ((xa, xb), 2, lp, c0, ss) B = Pm.betErr lp.toList (bhd B A).toList who) := by rw [Hid, HBH.out]; rfl
      rw [HX.out] at hE
      dsimp only at hE
      rw [← HEQ.out] at hE
      have HC5 : Hid (Chg (fun k => k = T ∨ k = g) w w5) := (Chg.ofBelow HB4.out _).trans hc5
      have HR5 : Hid (w5.heap[w.heap.size + 1]? = some (.cells #[.int .i64 0, .int .i64 0, .int .i64 0, .string ⟨#[]⟩, .int .i64 0, .slice none 0 0] 33)) := by rw [Hid, hc5.block _ (Array.getElem?_eq_some_iff.1 HR4.out).1 (by have q1 := HGT.out.1; have q2 := HTL.out; rintro (e | e) <;> omega)]; exact HR4.out
      have HE : Hid (betE who ((xa, xb), 2, lp, c0, ss) B = 0) := hE
      rw [HX.out] at hO5 ⊢
      dsimp only at hO5 ⊢
      have HSP : Hid (stepP lp (bhd B A) who = newP who ((xa, xb), 2, lp, c0, ss) B) := by rw [Hid, HBH.out]; rfl
      have HLT : Hid (lt = let' ((xa, xb), 2, lp, c0, ss) B) := by unfold Hid let'; dsimp only; rw [HLG.out]
      have HO5 : Hid (w5.ownsRow base 86 3 v5 (wrB who ((xa, xb), 2, lp, c0, ss) B).length (flat (wrB who ((xa, xb), 2, lp, c0, ss) B))) := by rw [Hid, HWI.out hE, ← HSP.out, ← HLT.out]; exact hO5
      have HT5 : Hid (w5.heap[T]? = some (.cells #[.int .i64 who, v5, .map (some M)] 97)) := hT5
      obtain ⟨st, hst⟩ : ∃ st, stepP lp (bhd B A) who = st := ⟨_, rfl⟩
      have HSTP : Hid (stepP lp (bhd B A) who = st) := hst
      rw [hst]
      clear hc5 hE hO5 hT5 hst CA HEQ
      obtain ⟨w6, hw6⟩ : ∃ w6, w6 = (w5.alloc (.cells #[.int .i64 0, .int .i64 0, .int .i64 1, .string st, .int .i64 lt, .slice none 0 0] 33)) := ⟨_, rfl⟩
      have HA6 : Hid (w6.heap[w5.heap.size]? = some (.cells #[.int .i64 0, .int .i64 0, .int .i64 1, .string st, .int .i64 lt, .slice none 0 0] 33)) := by rw [Hid, hw6]; exact heap_alloc_new w5 _
      have HB6 : Hid (Below w5.heap.size w5 w6) := by rw [Hid, hw6]; exact (Below.refl _ _).alloc (Nat.le_refl _) _
      have hR5l : w.heap.size + 1 < w5.heap.size := (Array.getElem?_eq_some_iff.1 HR5.out).1
      have HR6 : Hid (w6.heap[w.heap.size + 1]? = some (.cells #[.int .i64 0, .int .i64 0, .int .i64 0, .string ⟨#[]⟩, .int .i64 0, .slice none 0 0] 33)) := by rw [Hid, HB6.out.block _ hR5l]; exact HR5.out
      have HAR : Hid (w5.heap.size ≠ w.heap.size + 1) := Nat.ne_of_gt hR5l
      go_wp2_with fail
      rw [← hw6]
      clear hw6
      have z0 : w6.drew.cell? ⟨w.heap.size + 1, 0, none⟩ = some (.int .i64 0) := blk_cell HR6.out (i := 0) rfl
      have y0 : w6.drew.frozen? ⟨w.heap.size + 1, 0, none⟩ = false := blk_free HR6.out (i := 0)
      have zz0 : w6.cell? ⟨w.heap.size + 1, 0, none⟩ = some (.int .i64 0) := blk_cell HR6.out (i := 0) rfl
      have yy0 : w6.frozen? ⟨w.heap.size + 1, 0, none⟩ = false := blk_free HR6.out (i := 0)
      have z1 : w6.drew.cell? ⟨w.heap.size + 1, 1, none⟩ = some (.int .i64 0) := blk_cell HR6.out (i := 1) rfl
      have y1 : w6.drew.frozen? ⟨w.heap.size + 1, 1, none⟩ = false := blk_free HR6.out (i := 1)
      have zz1 : w6.cell? ⟨w.heap.size + 1, 1, none⟩ = some (.int .i64 0) := blk_cell HR6.out (i := 1) rfl
      have yy1 : w6.frozen? ⟨w.heap.size + 1, 1, none⟩ = false := blk_free HR6.out (i := 1)
      have z2 : w6.drew.cell? ⟨w.heap.size + 1, 2, none⟩ = some (.int .i64 0) := blk_cell HR6.out (i := 2) rfl
      have y2 : w6.drew.frozen? ⟨w.heap.size + 1, 2, none⟩ = false := blk_free HR6.out (i := 2)
      have zz2 : w6.cell? ⟨w.heap.size + 1, 2, none⟩ = some (.int .i64 0) := blk_cell HR6.out (i := 2) rfl
      have yy2 : w6.frozen? ⟨w.heap.size + 1, 2, none⟩ = false := blk_free HR6.out (i := 2)
      have z3 : w6.drew.cell? ⟨w.heap.size + 1, 3, none⟩ = some (.string ⟨#[]⟩) := blk_cell HR6.out (i := 3) rfl
      have y3 : w6.drew.frozen? ⟨w.heap.size + 1, 3, none⟩ = false := blk_free HR6.out (i := 3)
      have zz3 : w6.cell? ⟨w.heap.size + 1, 3, none⟩ = some (.string ⟨#[]⟩) := blk_cell HR6.out (i := 3) rfl
      have yy3 : w6.frozen? ⟨w.heap.size + 1, 3, none⟩ = false := blk_free HR6.out (i := 3)
      have z4 : w6.drew.cell? ⟨w.heap.size + 1, 4, none⟩ = some (.int .i64 0) := blk_cell HR6.out (i := 4) rfl
      have y4 : w6.drew.frozen? ⟨w.heap.size + 1, 4, none⟩ = false := blk_free HR6.out (i := 4)
      have zz4 : w6.cell? ⟨w.heap.size + 1, 4, none⟩ = some (.int .i64 0) := blk_cell HR6.out (i := 4) rfl
      have yy4 : w6.frozen? ⟨w.heap.size + 1, 4, none⟩ = false := blk_free HR6.out (i := 4)
      have z5 : w6.drew.cell? ⟨w.heap.size + 1, 5, none⟩ = some (.slice none 0 0) := blk_cell HR6.out (i := 5) rfl
      have y5 : w6.drew.frozen? ⟨w.heap.size + 1, 5, none⟩ = false := blk_free HR6.out (i := 5)
      have zz5 : w6.cell? ⟨w.heap.size + 1, 5, none⟩ = some (.slice none 0 0) := blk_cell HR6.out (i := 5) rfl
      have yy5 : w6.frozen? ⟨w.heap.size + 1, 5, none⟩ = false := blk_free HR6.out (i := 5)
      have s0 : w6.drew.cell? ⟨w5.heap.size, 0, none⟩ = some (.int .i64 0) := blk_cell HA6.out (i := 0) rfl
      have s1 : w6.drew.cell? ⟨w5.heap.size, 1, none⟩ = some (.int .i64 0) := blk_cell HA6.out (i := 1) rfl
      have s2 : w6.drew.cell? ⟨w5.heap.size, 2, none⟩ = some (.int .i64 1) := blk_cell HA6.out (i := 2) rfl
      have s3 : w6.drew.cell? ⟨w5.heap.size, 3, none⟩ = some (.string st) := blk_cell HA6.out (i := 3) rfl
      have s4 : w6.drew.cell? ⟨w5.heap.size, 4, none⟩ = some (.int .i64 lt) := blk_cell HA6.out (i := 4) rfl
      have s5 : w6.drew.cell? ⟨w5.heap.size, 5, none⟩ = some (.slice none 0 0) := blk_cell HA6.out (i := 5) rfl
      have hAR := HAR.out
      have ss0 : w6.cell? ⟨w5.heap.size, 0, none⟩ = some (.int .i64 0) := blk_cell HA6.out (i := 0) rfl
      have ss1 : w6.cell? ⟨w5.heap.size, 1, none⟩ = some (.int .i64 0) := blk_cell HA6.out (i := 1) rfl
      have ss2 : w6.cell? ⟨w5.heap.size, 2, none⟩ = some (.int .i64 1) := blk_cell HA6.out (i := 2) rfl
      have ss3 : w6.cell? ⟨w5.heap.size, 3, none⟩ = some (.string st) := blk_cell HA6.out (i := 3) rfl
      have ss4 : w6.cell? ⟨w5.heap.size, 4, none⟩ = some (.int .i64 lt) := blk_cell HA6.out (i := 4) rfl
      have ss5 : w6.cell? ⟨w5.heap.size, 5, none⟩ = some (.slice none 0 0) := blk_cell HA6.out (i := 5) rfl
      go_region_held3 (fun W => W.cell? ⟨w5.heap.size, 0, none⟩ = some (.int .i64 0) ∧ W.cell? ⟨w5.heap.size, 1, none⟩ = some (.int .i64 0) ∧ W.cell? ⟨w5.heap.size, 2, none⟩ = some (.int .i64 1) ∧ W.cell? ⟨w5.heap.size, 3, none⟩ = some (.string st) ∧ W.cell? ⟨w5.heap.size, 4, none⟩ = some (.int .i64 lt) ∧ W.cell? ⟨w5.heap.size, 5, none⟩ = some (.slice none 0 0)) (first | (go_keep; done) | (refine ⟨?_, ?_, ?_, ?_, ?_, ?_⟩ <;> (rw [World.cell?_drew, cell_oth hAR, cell_oth hAR, cell_oth hAR, cell_oth hAR, cell_oth hAR, cell_oth hAR]; assumption)) | (refine ⟨?_, ?_, ?_, ?_, ?_, ?_⟩ <;> (rw [cell_oth hAR, cell_oth hAR, cell_oth hAR, cell_oth hAR, cell_oth hAR, cell_oth hAR]; assumption))) (fail)
      have HW : Hid (((((((w6.setCell ⟨w.heap.size + 1, 0, none⟩ (.int .i64 0)).setCell ⟨w.heap.size + 1, 1, none⟩ (.int .i64 0)).setCell ⟨w.heap.size + 1, 2, none⟩ (.int .i64 1)).setCell ⟨w.heap.size + 1, 3, none⟩ (.string st)).setCell ⟨w.heap.size + 1, 4, none⟩ (.int .i64 lt)).setCell ⟨w.heap.size + 1, 5, none⟩ (.slice none 0 0)).heap[w.heap.size + 1]? = some (.cells #[.int .i64 0, .int .i64 0, .int .i64 1, .string st, .int .i64 lt, .slice none 0 0] 33)) := put6_heap HR6.out
      have HC9 : Hid (Chg (fun k => k = T ∨ k = g) w ((((((w6.setCell ⟨w.heap.size + 1, 0, none⟩ (.int .i64 0)).setCell ⟨w.heap.size + 1, 1, none⟩ (.int .i64 0)).setCell ⟨w.heap.size + 1, 2, none⟩ (.int .i64 1)).setCell ⟨w.heap.size + 1, 3, none⟩ (.string st)).setCell ⟨w.heap.size + 1, 4, none⟩ (.int .i64 lt)).setCell ⟨w.heap.size + 1, 5, none⟩ (.slice none 0 0))) := put6_chg (HC5.out.trans (Chg.ofBelow HB6.out _)) _ (Or.inr (by omega)) _ _ _ _ _ _
      have HT9 : Hid (((((((w6.setCell ⟨w.heap.size + 1, 0, none⟩ (.int .i64 0)).setCell ⟨w.heap.size + 1, 1, none⟩ (.int .i64 0)).setCell ⟨w.heap.size + 1, 2, none⟩ (.int .i64 1)).setCell ⟨w.heap.size + 1, 3, none⟩ (.string st)).setCell ⟨w.heap.size + 1, 4, none⟩ (.int .i64 lt)).setCell ⟨w.heap.size + 1, 5, none⟩ (.slice none 0 0)).heap[T]? = some (.cells #[.int .i64 who, v5, .map (some M)] 97)) := by
       refine (put6_block w6 _ _ _ _ _ _ _ _ (by have := HTL.out; omega)).trans ?_
       rw [HB6.out.block _ (Array.getElem?_eq_some_iff.1 HT5.out).1]; exact HT5.out
      have HO9 : Hid (((((((w6.setCell ⟨w.heap.size + 1, 0, none⟩ (.int .i64 0)).setCell ⟨w.heap.size + 1, 1, none⟩ (.int .i64 0)).setCell ⟨w.heap.size + 1, 2, none⟩ (.int .i64 1)).setCell ⟨w.heap.size + 1, 3, none⟩ (.string st)).setCell ⟨w.heap.size + 1, 4, none⟩ (.int .i64 lt)).setCell ⟨w.heap.size + 1, 5, none⟩ (.slice none 0 0)).ownsRow base 86 3 v5 (wrB who ((xa, xb), 2, lp, c0, ss) B).length (flat (wrB who ((xa, xb), 2, lp, c0, ss) B))) := by
       refine own_stay HO5.out fun k hk => ?_
       obtain ⟨hkl, cur, hc⟩ := own_lt HO5.out k hk
       have k2 : k ≠ w.heap.size + 1 := fun e => by rw [e, HR5.out] at hc; injection hc with hc; injection hc with _ hc _; exact absurd hc (by decide)
       refine (put6_block w6 _ _ _ _ _ _ _ _ k2).trans ?_
       rw [HB6.out.block _ hkl]
      generalize hP0 : ((((((w6.setCell ⟨w.heap.size + 1, 0, none⟩ (.int .i64 0)).setCell ⟨w.heap.size + 1, 1, none⟩ (.int .i64 0)).setCell ⟨w.heap.size + 1, 2, none⟩ (.int .i64 1)).setCell ⟨w.heap.size + 1, 3, none⟩ (.string st)).setCell ⟨w.heap.size + 1, 4, none⟩ (.int .i64 lt)).setCell ⟨w.heap.size + 1, 5, none⟩ (.slice none 0 0)) = W9 at HW HC9 HT9 HO9 ⊢
      clear hP0
      have HWd : Hid (W9.drew.heap[w.heap.size + 1]? = some (.cells #[.int .i64 0, .int .i64 0, .int .i64 1, .string st, .int .i64 lt, .slice none 0 0] 33)) := HW.out
      clear HW
      have HW := HWd
      clear HWd
      have HCd : Hid (Chg (fun k => k = T ∨ k = g) w W9.drew) := chg_drew HC9.out
      have HTd : Hid (W9.drew.heap[T]? = some (.cells #[.int .i64 who, v5, .map (some M)] 97)) := HT9.out
      have HOd : Hid (W9.drew.ownsRow base 86 3 v5 (wrB who ((xa, xb), 2, lp, c0, ss) B).length (flat (wrB who ((xa, xb), 2, lp, c0, ss) B))) := own_stay HO9.out fun _ _ => rfl
      clear HC9 HT9 HO9
      have HC9 := HCd
      have HT9 := HTd
      have HO9 := HOd
      clear HCd HTd HOd
      clear s0 s1 s2 s3 s4 s5 ss0 ss1 ss2 ss3 ss4 ss5 zz0 zz1 zz2 zz3 zz4 zz5 yy0 yy1 yy2 yy3 yy4 yy5
      go_wp2_with fail
      (try simp only [Exit.inBlock, Exit.then])
      generalize hWq : W9.drew = W at HW HC9 HT9 HO9 ⊢
      clear hWq z0 z1 z2 z3 z4 z5 y0 y1 y2 y3 y4 y5 
      refine bodyPost_ret (v := .tuple #[.agg #[.int .i64 0, .int .i64 0, .int .i64 1, .string st, .int .i64 lt, .slice none 0 0], .bool true, .nilIface]) ?_ rfl ?_
      ·simp [results]
       rw [show (asAddr (Value.pointer (some ⟨w.heap.size + 1, 0, none⟩))).run Tryz.prog W = .ok ⟨w.heap.size + 1, 0, none⟩ W from rfl]
       simp [If.load_op HW.out, Result.andThen]
       (try rfl)
      ·exact Or.inr (Or.inr (Or.inr ⟨HK.out, HE.out, by rw [← HSP.out, HSTP.out, ← HLT.out], ⟨_, HT9.out, HO9.out⟩, HC9.out⟩))
    ·have HK : Hid (kindP S ((xa, xb), 2, lp, c0, ss) B = 0) := by rw [Hid, HKD.out, if_neg (by simp), if_neg (fun e => hc e.2.2)]
     rw [hops] at hc
     have hcb : ((cnt ops lp : Int) == 1) = false := by rw [beq_eq_false_iff_ne]; omega
     clear HKD hops ht1 t1b
     clear h
     go_enter Tryz.func39, Tryz.ntmps39
     go_wp2_with fail
     have d1 := HT1.out _ HQB.out
     have d3 := blk_cell HQ1.out (i := 3) (u := .string lp) rfl
     go_region_held3 (fun W => W.cell? ⟨T, 1, none⟩ = some (.slice (some ⟨g, 0, none⟩) n c) ∧ W.cell? ⟨w.heap.size, 3, none⟩ = some (.string lp)) (first | (go_keep; done) | (refine ⟨keep_cell hb7 ?_, keep_cell hb7 ?_⟩ <;> (first | assumption | (go_split_ands; assumption)))) (first
      | (go_at_call 64; refine (CF.out _ HQB.out.drew).mono ?_; rintro e w2 ⟨rfl, hb7⟩; have HB2 : Hid (Below w.heap.size w w2) := bel HQB.out.drew hb7; have HQ2 : Hid (w2.heap[w.heap.size]? = some (.cells #[.int .i64 xa, .int .i64 xb, .int .i64 2, .string lp, .int .i64 c0, .slice qs ns cs] 33)) := (by rw [Hid, hb7.block _ (by first | (simp; done) | (simp; omega))]; exact HQ1.out); have HR2 : Hid (w2.heap[w.heap.size + 1]? = some (.cells #[.int .i64 0, .int .i64 0, .int .i64 0, .string ⟨#[]⟩, .int .i64 0, .slice none 0 0] 33)) := (by rw [Hid, hb7.block _ (by first | (simp; done) | (simp; omega))]; exact HR1.out)))
     clear hb7 d1 d3 CF HQ1 HR1
     obtain ⟨f0, f1, f2, d1, d2⟩ := HCL.out w2 HB2.out
     have o2 := blk_cell HQ2.out (i := 2) (u := .int .i64 2) rfl
     have o3 := blk_cell HQ2.out (i := 3) (u := .string lp) rfl
     have CL := fun W => Lb.isLetter_any lt W
     rw [hL] at CL
     go_wp2_with fail
     have hlk := fun k => MapC.look (HMC.out _ (bel_drew HB2.out k)) lp
     go_quiet (exact Calls.quiet_of_same (CL _))
     generalize hw4 : World.drewN _ _ = w4
     have HB4 : Hid (Below w.heap.size w w4) := by rw [Hid, ← hw4]; exact bel_drew HB2.out _
     have HQ4 : Hid (w4.heap[w.heap.size]? = some (.cells #[.int .i64 xa, .int .i64 xb, .int .i64 2, .string lp, .int .i64 c0, .slice qs ns cs] 33)) := by rw [Hid, ← hw4]; exact HQ2.out
     have HR4 : Hid (w4.heap[w.heap.size + 1]? = some (.cells #[.int .i64 0, .int .i64 0, .int .i64 0, .string ⟨#[]⟩, .int .i64 0, .slice none 0 0] 33)) := by rw [Hid, ← hw4]; exact HR2.out
     clear hw4 hlk f0 f1 f2 d1 d2 o2 o3 HB2 HQ2 HR2
     have z0 := blk_cell HR4.out (i := 0) (u := .int .i64 0) rfl
     have y0 := blk_free HR4.out (i := 0)
     have z1 := blk_cell HR4.out (i := 1) (u := .int .i64 0) rfl
     have y1 := blk_free HR4.out (i := 1)
     have z2 := blk_cell HR4.out (i := 2) (u := .int .i64 0) rfl
     have y2 := blk_free HR4.out (i := 2)
     have z3 := blk_cell HR4.out (i := 3) (u := .string ⟨#[]⟩) rfl
     have y3 := blk_free HR4.out (i := 3)
     have z4 := blk_cell HR4.out (i := 4) (u := .int .i64 0) rfl
     have y4 := blk_free HR4.out (i := 4)
     have z5 := blk_cell HR4.out (i := 5) (u := .slice none 0 0) rfl
     have y5 := blk_free HR4.out (i := 5)
     have HW : Hid (((((((w4.setCell ⟨w.heap.size + 1, 0, none⟩ (.int .i64 0)).setCell ⟨w.heap.size + 1, 1, none⟩ (.int .i64 0)).setCell ⟨w.heap.size + 1, 2, none⟩ (.int .i64 0)).setCell ⟨w.heap.size + 1, 3, none⟩ (.string ⟨#[]⟩)).setCell ⟨w.heap.size + 1, 4, none⟩ (.int .i64 0)).setCell ⟨w.heap.size + 1, 5, none⟩ (.slice none 0 0)).heap[w.heap.size + 1]? = some (.cells #[.int .i64 0, .int .i64 0, .int .i64 0, .string ⟨#[]⟩, .int .i64 0, .slice none 0 0] 33)) := put6_heap HR4.out
     have HC9 : Hid (Chg (fun _ => False) w ((((((w4.setCell ⟨w.heap.size + 1, 0, none⟩ (.int .i64 0)).setCell ⟨w.heap.size + 1, 1, none⟩ (.int .i64 0)).setCell ⟨w.heap.size + 1, 2, none⟩ (.int .i64 0)).setCell ⟨w.heap.size + 1, 3, none⟩ (.string ⟨#[]⟩)).setCell ⟨w.heap.size + 1, 4, none⟩ (.int .i64 0)).setCell ⟨w.heap.size + 1, 5, none⟩ (.slice none 0 0))) := put6_chg (Chg.ofBelow HB4.out _) _ (Or.inr (by omega)) _ _ _ _ _ _
     go_wp2_with fail
     (try simp only [Exit.inBlock, Exit.then])
     generalize hWq : ((((((w4.setCell ⟨w.heap.size + 1, 0, none⟩ (.int .i64 0)).setCell ⟨w.heap.size + 1, 1, none⟩ (.int .i64 0)).setCell ⟨w.heap.size + 1, 2, none⟩ (.int .i64 0)).setCell ⟨w.heap.size + 1, 3, none⟩ (.string ⟨#[]⟩)).setCell ⟨w.heap.size + 1, 4, none⟩ (.int .i64 0)).setCell ⟨w.heap.size + 1, 5, none⟩ (.slice none 0 0)) = W at HW HC9 ⊢
     clear hWq z0 z1 z2 z3 z4 z5 y0 y1 y2 y3 y4 y5 
     refine bodyPost_ret (v := .tuple #[opZ, .bool false, .nilIface]) ?_ rfl ?_
     ·simp [results]
      rw [show (asAddr (Value.pointer (some ⟨w.heap.size + 1, 0, none⟩))).run Tryz.prog W = .ok ⟨w.heap.size + 1, 0, none⟩ W from rfl]
      simp [If.load_op HW.out, Result.andThen]
      (try rfl)
     ·exact Or.inl ⟨HK.out, rfl, chg_none HC9.out⟩
  ·have t2b : (t == 2) = false := by simpa using ht2
   have HK : Hid (kindP S ((xa, xb), t, lp, c0, ss) B = 0) := by rw [Hid, HKD.out, if_neg (fun e => ht1 e.1), if_neg (fun e => ht2 e.1)]
   clear HKD hops ht1 ht2
   clear h
   go_enter Tryz.func39, Tryz.ntmps39
   go_wp2_with fail
   have d1 := HT1.out _ HQB.out
   have d3 := blk_cell HQ1.out (i := 3) (u := .string lp) rfl
   go_region_held3 (fun W => W.cell? ⟨T, 1, none⟩ = some (.slice (some ⟨g, 0, none⟩) n c) ∧ W.cell? ⟨w.heap.size, 3, none⟩ = some (.string lp)) (first | (go_keep; done) | (refine ⟨keep_cell hb7 ?_, keep_cell hb7 ?_⟩ <;> (first | assumption | (go_split_ands; assumption)))) (first
    | (go_at_call 64; refine (CF.out _ HQB.out.drew).mono ?_; rintro e w2 ⟨rfl, hb7⟩; have HB2 : Hid (Below w.heap.size w w2) := bel HQB.out.drew hb7; have HQ2 : Hid (w2.heap[w.heap.size]? = some (.cells #[.int .i64 xa, .int .i64 xb, .int .i64 t, .string lp, .int .i64 c0, .slice qs ns cs] 33)) := (by rw [Hid, hb7.block _ (by first | (simp; done) | (simp; omega))]; exact HQ1.out); have HR2 : Hid (w2.heap[w.heap.size + 1]? = some (.cells #[.int .i64 0, .int .i64 0, .int .i64 0, .string ⟨#[]⟩, .int .i64 0, .slice none 0 0] 33)) := (by rw [Hid, hb7.block _ (by first | (simp; done) | (simp; omega))]; exact HR1.out)))
   clear hb7 d1 d3 CF HQ1 HR1
   obtain ⟨f0, f1, f2, d1, d2⟩ := HCL.out w2 HB2.out
   have o2 := blk_cell HQ2.out (i := 2) (u := .int .i64 t) rfl
   have o3 := blk_cell HQ2.out (i := 3) (u := .string lp) rfl
   go_wp2_with fail
   have hlk := fun k => MapC.look (HMC.out _ (bel_drew HB2.out k)) lp
   go_quiet (fail)
   generalize hw4 : World.drewN _ _ = w4
   have HB4 : Hid (Below w.heap.size w w4) := by rw [Hid, ← hw4]; exact bel_drew HB2.out _
   have HQ4 : Hid (w4.heap[w.heap.size]? = some (.cells #[.int .i64 xa, .int .i64 xb, .int .i64 t, .string lp, .int .i64 c0, .slice qs ns cs] 33)) := by rw [Hid, ← hw4]; exact HQ2.out
   have HR4 : Hid (w4.heap[w.heap.size + 1]? = some (.cells #[.int .i64 0, .int .i64 0, .int .i64 0, .string ⟨#[]⟩, .int .i64 0, .slice none 0 0] 33)) := by rw [Hid, ← hw4]; exact HR2.out
   clear hw4 hlk f0 f1 f2 d1 d2 o2 o3 HB2 HQ2 HR2
   have z0 := blk_cell HR4.out (i := 0) (u := .int .i64 0) rfl
   have y0 := blk_free HR4.out (i := 0)
   have z1 := blk_cell HR4.out (i := 1) (u := .int .i64 0) rfl
   have y1 := blk_free HR4.out (i := 1)
   have z2 := blk_cell HR4.out (i := 2) (u := .int .i64 0) rfl
   have y2 := blk_free HR4.out (i := 2)
   have z3 := blk_cell HR4.out (i := 3) (u := .string ⟨#[]⟩) rfl
   have y3 := blk_free HR4.out (i := 3)
   have z4 := blk_cell HR4.out (i := 4) (u := .int .i64 0) rfl
   have y4 := blk_free HR4.out (i := 4)
   have z5 := blk_cell HR4.out (i := 5) (u := .slice none 0 0) rfl
   have y5 := blk_free HR4.out (i := 5)
   have HW : Hid (((((((w4.setCell ⟨w.heap.size + 1, 0, none⟩ (.int .i64 0)).setCell ⟨w.heap.size + 1, 1, none⟩ (.int .i64 0)).setCell ⟨w.heap.size + 1, 2, none⟩ (.int .i64 0)).setCell ⟨w.heap.size + 1, 3, none⟩ (.string ⟨#[]⟩)).setCell ⟨w.heap.size + 1, 4, none⟩ (.int .i64 0)).setCell ⟨w.heap.size + 1, 5, none⟩ (.slice none 0 0)).heap[w.heap.size + 1]? = some (.cells #[.int .i64 0, .int .i64 0, .int .i64 0, .string ⟨#[]⟩, .int .i64 0, .slice none 0 0] 33)) := put6_heap HR4.out
   have HC9 : Hid (Chg (fun _ => False) w ((((((w4.setCell ⟨w.heap.size + 1, 0, none⟩ (.int .i64 0)).setCell ⟨w.heap.size + 1, 1, none⟩ (.int .i64 0)).setCell ⟨w.heap.size + 1, 2, none⟩ (.int .i64 0)).setCell ⟨w.heap.size + 1, 3, none⟩ (.string ⟨#[]⟩)).setCell ⟨w.heap.size + 1, 4, none⟩ (.int .i64 0)).setCell ⟨w.heap.size + 1, 5, none⟩ (.slice none 0 0))) := put6_chg (Chg.ofBelow HB4.out _) _ (Or.inr (by omega)) _ _ _ _ _ _
   go_wp2_with fail
   (try simp only [Exit.inBlock, Exit.then])
   generalize hWq : ((((((w4.setCell ⟨w.heap.size + 1, 0, none⟩ (.int .i64 0)).setCell ⟨w.heap.size + 1, 1, none⟩ (.int .i64 0)).setCell ⟨w.heap.size + 1, 2, none⟩ (.int .i64 0)).setCell ⟨w.heap.size + 1, 3, none⟩ (.string ⟨#[]⟩)).setCell ⟨w.heap.size + 1, 4, none⟩ (.int .i64 0)).setCell ⟨w.heap.size + 1, 5, none⟩ (.slice none 0 0)) = W at HW HC9 ⊢
   clear hWq z0 z1 z2 z3 z4 z5 y0 y1 y2 y3 y4 y5 
   refine bodyPost_ret (v := .tuple #[opZ, .bool false, .nilIface]) ?_ rfl ?_
   ·simp [results]
    rw [show (asAddr (Value.pointer (some ⟨w.heap.size + 1, 0, none⟩))).run Tryz.prog W = .ok ⟨w.heap.size + 1, 0, none⟩ W from rfl]
    simp [If.load_op HW.out, Result.andThen]
    (try rfl)
   ·exact Or.inl ⟨HK.out, rfl, chg_none HC9.out⟩
theorem back_any (base T M : Nat) (who : Int) (S : Dq) (xa xb t : Int) (p : ByteArray) (c0 : Int) (ss : List Dt) (vs vb : Value) (hvs : ∃ q n k, vs = .slice q n k) (B : List Leaf) (w : World) (h : Tk base w T M who S.ops vb B) :
  ∃ g, (∀ k, k = g → k = T ∨ vb.ownBlock = some k) ∧ Calls Tryz.prog 39 #[.pointer (some ⟨T, 0, none⟩), .agg #[.int .i64 xa, .int .i64 xb, .int .i64 t, .string p, .int .i64 c0, vs]] w (TbPost base T M g who S ((xa, xb), t, p, c0, ss) B w) := by
 obtain ⟨qs, ns, cs, rfl⟩ := hvs
 cases hh : has B p.toList with
 | false =>
  obtain ⟨q, n, c, rfl, _⟩ := own_shape h.book
  exact ⟨T, fun k hk => Or.inl hk, back_not base T M T who S xa xb t p c0 ss qs ns cs q n c B w h hh⟩
 | true =>
  obtain ⟨g, c, rfl, _⟩ := h.shape (by intro e; rw [e] at hh; unfold has at hh; simp at hh)
  exact ⟨g, fun k hk => Or.inr (by rw [hk]; rfl), back_has base T M g who S xa xb t p c0 ss qs ns cs _ c B w h hh⟩
end Bk
end Go.Proofs.YtnbnniapllkjlaaGreatDoor
