/- Where it stands it stands: the walk. -/
import Derived.Test.YtlmdchpbpgcfmaaGreatF7
import Derived.Test.YtlmdchpbpgcfmaaGreatF5
import Derived.Deep.DeepCutAuto
import Derived.Deep.CutRange
namespace Go.Proofs.YtlmdchpbpgcfmaaGreat
namespace F8
set_option linter.unusedVariables false
set_option linter.unusedSimpArgs false
open Go.ChangeShapes Go.WideShapes Go.ChangeAt Go.RowKit Cm Ka Kb Na Om Oa Oz Oc Og Oi Hm Ia Ic Ie Ik Im Il Um Ua Ue Uq Fj Ac F6 F7
open La (bel bel_drew errV_zero errV_ne own_below)
open F2 (ML allE allR all_is all_full all_empty)
open Fnn (intsV)
open Iq (run run_next off_old)

/- All of a part, cell by cell -/
theorem all_cells (t p : ByteArray) (w : World) (hM : ML w) (ht3 : t.size ≤ 300) (hp2 : p.size ≤ 200) (hp0 : p.size ≠ 0) :
    Calls Tryz.prog 4 #[.string t, .string p] w fun e w' => ∃ q n c, e = .returned (.tuple #[.slice q n c, .nilIface]) ∧ Hid ((Fi.all t.toList p.toList).length = n) ∧ Hid (∀ j, j < n → ∃ g, q = some ⟨g, 0, none⟩ ∧ w'.cell? ⟨g, j, none⟩ = some (.int .i64 (((Fi.all t.toList p.toList).getD j 0 : Nat) : Int))) ∧ Hid (Below w.heap.size w w') := by
  refine (all_is t p w hM ht3 hp2 hp0).mono ?_
  rintro e w' ⟨v, rfl, ho, hb⟩
  obtain ⟨q, c, rfl⟩ := F5.own_shape ho
  refine ⟨q, _, c, rfl, rfl, fun j hj => ?_, hb⟩
  obtain ⟨g, cap, e, hc⟩ := Fr.own_cells ho (by omega)
  injection e with e1 _ _
  refine ⟨g, e1, ?_⟩
  have := hc j (.int .i64 (((Fi.all t.toList p.toList).getD j 0 : Nat) : Int)) (by unfold intsV; rw [List.getElem?_map, List.getElem?_eq_getElem hj, List.getD_eq_getElem?_getD, List.getElem?_eq_getElem hj]; rfl)
  rwa [Nat.zero_add] at this
theorem all_no (t p : ByteArray) (w : World) (hts : t.size ≤ maxLen) (hps : p.size ≤ maxLen) (h : allE t p ≠ 0) :
    Calls Tryz.prog 4 #[.string t, .string p] w fun e w' => ∃ k : Int, e = .returned (.tuple #[.slice none 0 0, .iface 47 (.int .i64 k)]) ∧ Hid (Below w.heap.size w w') := by
  unfold allE at h
  by_cases h1 : 300 < t.size ∨ 200 < p.size
  · refine (all_full t p w hts hps h1).mono ?_
    rintro e w' ⟨rfl, rfl⟩
    exact ⟨4, rfl, Below.refl _ _⟩
  · by_cases h2 : p.size = 0
    · obtain rfl := F2.nil_of h2
      refine (all_empty t w (by omega)).mono ?_
      rintro e w' ⟨rfl, rfl⟩
      exact ⟨3, rfl, Below.refl _ _⟩
    · rw [if_neg h1, if_neg h2] at h; exact absurd rfl h
theorem all_zero {t p : ByteArray} (h : allE t p = 0) : t.size ≤ 300 ∧ p.size ≤ 200 ∧ p.size ≠ 0 := by
  unfold allE at h
  by_cases h1 : 300 < t.size ∨ 200 < p.size
  · rw [if_pos h1] at h; exact absurd h (by decide)
  · by_cases h2 : p.size = 0
    · rw [if_neg h1, if_pos h2] at h; exact absurd h (by decide)
    · exact ⟨by omega, by omega, h2⟩
/- the first call -/
theorem first_all (w : World) (hM : ML w) : Calls Tryz.prog 4 #[.string ⟨#[97, 98, 99, 97, 98]⟩, .string ⟨#[97, 98]⟩] w fun e w' => ∃ g c, e = .returned (.tuple #[.slice (some ⟨g, 0, none⟩) 2 c, .nilIface]) ∧ w'.cell? ⟨g, 1, none⟩ = some (.int .i64 3) ∧ Hid (Below w.heap.size w w') := by
  refine (all_cells _ _ w hM (by decide) (by decide) (by decide)).mono ?_
  have hA : Fi.all (⟨#[97, 98, 99, 97, 98]⟩ : ByteArray).toList (⟨#[97, 98]⟩ : ByteArray).toList = [0, 3] := by
    rw [ByteArray.toList_eq, ByteArray.toList_eq]; decide
  rw [hA]
  rintro e w' ⟨q, n, c, rfl, hn, hc, hb⟩
  obtain rfl : n = 2 := hn.out.symm
  obtain ⟨g, rfl, h1⟩ := hc.out 1 (by decide)
  exact ⟨g, c, rfl, h1, hb⟩

/- is an error nil? -/
set_option maxRecDepth 100000 in
theorem err_nil (k : Int) (w : World) : (binOp .eql 25 (errV k) .nilIface).run Tryz.prog w = .ok (.bool (k == 0)) w := by
  by_cases h : k = 0
  · subst h; rfl
  · rw [errV_ne h]
    have e : (k == 0) = false := by simpa using h
    rw [e]; rfl
set_option maxRecDepth 100000 in
theorem err_guard (k : Int) (n : Nat) (w : World) : (eqGuard .eql 25 (.tmp n) (.const .nilIface) (errV k) .nilIface).run Tryz.prog w = .ok () w := by
  by_cases h : k = 0
  · subst h; rfl
  · rw [errV_ne h]; rfl
theorem ints_cell {w : World} {B n c : Nat} {q : Option Addr} {A : List Nat} (h : w.ownsRow B 3 1 (.slice q n c) A.length (intsV A)) : ∀ j, j < A.length → ∃ g, q = some ⟨g, 0, none⟩ ∧ w.cell? ⟨g, j, none⟩ = some (.int .i64 ((A.getD j 0 : Nat) : Int)) := fun j hj => by
  obtain ⟨g, cap, e, hc⟩ := Fr.own_cells h (by omega)
  injection e with e1 _ _
  refine ⟨g, e1, ?_⟩
  have := hc j (.int .i64 ((A.getD j 0 : Nat) : Int)) (by unfold intsV; rw [List.getElem?_map, List.getElem?_eq_getElem hj, List.getD_eq_getElem?_getD, List.getElem?_eq_getElem hj]; rfl)
  rwa [Nat.zero_add] at this
theorem str_cell {w : World} {B n c : Nat} {q : Option Addr} {A : List ByteArray} (h : w.ownsRow B 9 1 (.slice q n c) A.length (F3.strV A)) : ∀ j, j < A.length → ∃ g, q = some ⟨g, 0, none⟩ ∧ w.cell? ⟨g, j, none⟩ = some (.string (A.getD j ByteArray.empty)) := fun j hj => by
  obtain ⟨g, cap, e, hc⟩ := Fr.own_cells h (by omega)
  injection e with e1 _ _
  refine ⟨g, e1, ?_⟩
  have := hc j _ (F3.strV_at hj)
  rwa [Nat.zero_add] at this
theorem lines_zero {t : ByteArray} {n : Int} (h : F5.linesE t n = 0) : 1 ≤ n ∧ n ≤ 100 ∧ t.size ≤ 300 := by
  unfold F5.linesE at h
  by_cases h1 : 300 < t.size
  · rw [if_pos h1] at h; exact absurd h (by decide)
  · by_cases h2 : n < 1 ∨ 100 < n
    · rw [if_neg h1, if_pos h2] at h; exact absurd h (by decide)
    · exact ⟨by omega, by omega, by omega⟩
/- texts one behind the other; without their blanks -/
def flatB (l : List ByteArray) : List UInt8 := l.flatMap fun b => b.toList
def flatC (l : List ByteArray) : List UInt8 := l.flatMap fun b => (Fi.cutC 32 b.toList).flatten
theorem flatB_next {l : List ByteArray} {k : Nat} (hk : k < l.length) : flatB (l.take (k + 1)) = flatB (l.take k) ++ (l.getD k ByteArray.empty).toList := by
  unfold flatB
  rw [List.take_succ_eq_append_getElem hk, List.flatMap_append, List.getD_eq_getElem?_getD, List.getElem?_eq_getElem hk]; simp
theorem flatC_next {l : List ByteArray} {k : Nat} (hk : k < l.length) : flatC (l.take (k + 1)) = flatC (l.take k) ++ (Fi.cutC 32 (l.getD k ByteArray.empty).toList).flatten := by
  unfold flatC
  rw [List.take_succ_eq_append_getElem hk, List.flatMap_append, List.getD_eq_getElem?_getD, List.getElem?_eq_getElem hk]; simp
theorem flatB_le (l : List ByteArray) (k : Nat) : (flatB (l.take k)).length ≤ (flatB l).length := by
  conv => rhs; rw [← List.take_append_drop k l]
  unfold flatB
  rw [List.flatMap_append, List.length_append]; omega
theorem flatC_le (l : List ByteArray) (k : Nat) : (flatC (l.take k)).length ≤ (flatC l).length := by
  conv => rhs; rw [← List.take_append_drop k l]
  unfold flatC
  rw [List.flatMap_append, List.length_append]; omega
theorem cut_len (l : List UInt8) : (Fi.cutC 32 l).length ≤ l.length + 1 := by
  induction l with
  | nil => simp [Fi.cutC]
  | cons x r ih =>
    unfold Fi.cutC
    split
    · rw [List.length_cons, List.length_cons]; omega
    · have := List.length_pos_iff.2 (Fi.cutC_ne 32 r)
      rw [List.length_cons, List.length_cons, List.length_tail]; omega
theorem opsG_J {R : Nat → Prop} {w : World} {v : Value} {l : List Ox} (h : OpsJ R R w v l) : OpsG R w v l := by
  obtain ⟨p, c, h1, h2, h3⟩ := h
  exact ⟨p, c, h1, h2, h3⟩
theorem opsJ_shape {R : Nat → Prop} {w : World} {v : Value} {l : List Ox} (h : OpsJ R R w v l) : ∃ p c, v = .slice p l.length c := by
  obtain ⟨p, c, h1, _⟩ := h
  exact ⟨p, c, h1⟩
theorem textR_list {l : List Bm.Leaf} (h : Bm.bookE l = 0) : (Lf.textR l).toList = Bm.text l := by unfold Lf.textR; rw [if_pos h, Om.toList_mk]
theorem rep_zero_parts {S : Dq} {who : Int} {p b : ByteArray} (h : repE S who p b = 0) : (1 ≤ who ∧ who ≤ 8) ∧ allE (Lf.textR S.book) p = 0 ∧ rpE who p.size b (Fi.all (Lf.textR S.book).toList p.toList).reverse S = 0 := by
  unfold repE at h
  cases hw : Pm.isWho who with
  | false => rw [if_pos hw] at h; exact absurd h (by decide)
  | true =>
    rw [if_neg (by rw [hw]; simp)] at h
    have h18 : 1 ≤ who ∧ who ≤ 8 := by simpa [Pm.isWho] using hw
    by_cases h2 : allE (Lf.textR S.book) p = 0
    · rw [if_neg (by simpa using h2)] at h; exact ⟨h18, h2, h⟩
    · rw [if_pos h2] at h; exact absurd h h2
/- the places of what replaces are small -/
theorem rp_max {who : Int} {n : Nat} {b : ByteArray} (w1 : 1 ≤ who) (w8 : who ≤ 8) : ∀ (l : List Nat) (C : Dq), Inv C → rpE who n b l C = 0 → ∀ o ∈ rpL who n b l C, o.2.2.1.size ≤ maxLen
  | [], C, I, _ => fun o ho => by cases ho
  | a :: r, C, I, he => by
    rw [rpE_cons] at he
    by_cases e1 : dE C who a n = 0
    · rw [if_neg (by simpa using e1)] at he
      by_cases e2 : iE (dS C who a n) who a b = 0
      · rw [if_neg (by simpa using e2)] at he
        have I1 : Inv (dS C who a n) := Um.run_inv _ I
        have I2 : Inv (iS (dS C who a n) who a b) := Um.run_inv _ I1
        have ih := rp_max w1 w8 r _ I2 he
        intro o ho
        rw [rpL_cons] at ho
        rcases List.mem_append.1 ho with ho | ho
        · rcases List.mem_append.1 ho with ho | ho
          · exact del_max I _ _ _ o ho
          · exact ins_max I1 (cE_zero.1 e2).1 o ho
        · exact ih o ho
      · rw [if_pos e2] at he; exact absurd he e2
    · rw [if_pos e1] at he; exact absurd he e1
theorem rep_max {S : Dq} {who : Int} {p b : ByteArray} (I : Inv S) (w1 : 1 ≤ who) (w8 : who ≤ 8) (h : rpE who p.size b (Fi.all (Lf.textR S.book).toList p.toList).reverse S = 0) : ∀ o ∈ repL S who p b, o.2.2.1.size ≤ maxLen := rp_max w1 w8 _ S I h
/- where a part stands: from one round to the next -/
theorem next_at {t p : List UInt8} (hp : p ≠ []) {A : List Nat} {i fr : Nat} (hi : i < A.length) (h : A.drop i = Fi.allF t p (t.length + 1) fr) :
    fr ≤ A.getD i 0 ∧ Fi.isAt t p (A.getD i 0) = true ∧ (∀ k, fr ≤ k → k < A.getD i 0 → Fi.isAt t p k = false) ∧ A.drop (i + 1) = Fi.allF t p (t.length + 1) (A.getD i 0 + p.length) := by
  have e : A.drop i = A.getD i 0 :: A.drop (i + 1) := by
    rw [List.drop_eq_getElem_cons hi, List.getD_eq_getElem?_getD, List.getElem?_eq_getElem hi]; rfl
  rw [e] at h
  exact Fi.head hp (t.length + 1) fr _ _ (by omega) h.symm
theorem ext_at (t p : ByteArray) (i : Nat) : (((t.extract i (i + p.size)).toList == p.toList)) = Fi.isAt t.toList p.toList i := Fnn.ext_at t p i (Kb.len_eq p)
theorem ext_ne (t p : ByteArray) (i : Nat) : (((t.extract i (i + p.size)).toList != p.toList)) = !Fi.isAt t.toList p.toList i := by
  rw [← ext_at]; rfl

set_option maxRecDepth 100000 in
set_option maxHeartbeats 8000000 in
theorem walk (vl : Value) (l : List Ox) (who : Int) (p t : ByteArray) (wd : Int) (w : World) (hl : OpsAt w vl l) (hsz : ∀ x ∈ l, x.2.2.1.size ≤ maxLen) (hp : p.size ≤ maxLen) (ht : t.size ≤ maxLen) (hM : ML w) :
    Calls Tryz.prog 3 #[vl, .int .i64 who, .string p, .string t, .int .i64 wd] w fun e w' => e = .returned (.bool true) ∧ Below w.heap.size w w' := by
  obtain ⟨ql, cl, rfl, hlin, _⟩ := hl
  obtain ⟨n, hn⟩ : ∃ n, n = l.length := ⟨_, rfl⟩
  rw [← hn]
  have HN : Hid (l.length = n) := hn.symm
  have HLI : Hid (OpsIn w ql l) := hlin
  have HSZ : Hid (∀ x ∈ l, x.2.2.1.size ≤ maxLen) := hsz
  have HMX : Hid (p.size ≤ maxLen ∧ t.size ≤ maxLen) := ⟨hp, ht⟩
  have HM : Hid (ML w) := hM
  have htz : (t.size : Int) ≤ 9223372036854775807 := by unfold maxLen at ht; omega
  have hpz : (p.size : Int) ≤ 9223372036854775807 := by unfold maxLen at hp; omega
  clear hlin hsz hn ht hp hM
  go_enter Tryz.func3, Tryz.ntmps3
  go_wp2_with fail
  refine (first_all w HM.out).mono ?_
  rintro e w1 ⟨g1, c1, rfl, hc1, HB1⟩
  have HM1 : Hid (ML w1) := HM.out.below HB1.out
  go_wp2_with fail
  refine (F2.all_any t p w1 HM1.out HMX.out.2 HMX.out.1).mono ?_
  rintro e w2 ⟨v2, he2, ho2, hb2⟩
  obtain ⟨q2, c2, rfl⟩ := F5.own_shape ho2
  have HB2 : Hid (Below w.heap.size w w2) := bel HB1.out hb2
  have HCA : Hid (∀ j, j < (allR t p).length → ∃ g, q2 = some ⟨g, 0, none⟩ ∧ w2.cell? ⟨g, j, none⟩ = some (.int .i64 (((allR t p).getD j 0 : Nat) : Int))) := fun j hj => ints_cell ho2 j hj
  obtain ⟨A, hA⟩ : ∃ A, A = allR t p := ⟨_, rfl⟩
  rw [← hA] at HCA he2
  have HA : Hid (allE t p = 0 → A = Fi.all t.toList p.toList) := fun h => by rw [hA]; unfold allR; rw [if_pos h]
  obtain ⟨k2, hk2⟩ : ∃ k2, k2 = allE t p := ⟨_, rfl⟩
  rw [← hk2] at he2 HA
  have HK2 : Hid (k2 = allE t p) := hk2
  have x1 : ∀ W, (binOp .eql 25 (errV k2) .nilIface).run Tryz.prog W = .ok (.bool (k2 == 0)) W := fun W => err_nil _ W
  have x2 : ∀ (x : Nat) (W : World), (eqGuard .eql 25 (.tmp x) (.const .nilIface) (errV k2) .nilIface).run Tryz.prog W = .ok () W := fun x W => err_guard _ x W
  obtain ⟨ev2, hev2⟩ : ∃ ev2, errV k2 = ev2 := ⟨_, rfl⟩
  obtain ⟨b2, hb2'⟩ : ∃ b2 : Bool, (k2 == 0) = b2 := ⟨_, rfl⟩
  rw [hev2] at he2 x1 x2
  rw [hb2'] at x1
  have HBB : Hid ((k2 == 0) = b2) := hb2'
  subst he2
  obtain ⟨m, hm⟩ : ∃ m, A.length = m := ⟨_, rfl⟩
  rw [hm] at HCA ⊢
  have HMA : Hid (A.length = m) := hm
  clear hA hk2 hev2 hb2' ho2 hb2 hm hc1 HB1
  go_upto_if 57 with fail
  go_cut [15, 16, 17] from 58 to 132 (fun _ _ _ wx => Hid (Below w.heap.size w wx))
  case first =>
    clear x1 x2
    cases b2
    case false =>
      go_wp2_with fail
      go_meet
      case rel => exact HB2
    case true =>
      have hk0 : allE t p = 0 := by rw [← HK2.out]; simpa using HBB.out
      obtain ⟨z1, z2, z3⟩ := all_zero hk0
      have HAE : Hid (A = Fi.all t.toList p.toList) := HA.out (by rw [HK2.out]; exact hk0)
      have HPN : Hid (p.toList ≠ []) := fun e => z3 (by rw [← Kb.len_eq, e]; rfl)
      have hm3 : m ≤ 300 := by
        rw [← HMA.out, HAE.out]
        have h3 := Fi.room (t := t.toList) HPN.out (t.toList.length + 1) 0 (Nat.zero_le _)
        have h4 := Nat.le_mul_of_pos_right (Fi.allF t.toList p.toList (t.toList.length + 1) 0).length (List.length_pos_iff.2 HPN.out)
        rw [Kb.len_eq t] at h3 h4
        unfold Fi.all
        rw [Kb.len_eq t]
        omega
      clear hk0
      go_wp2_with fail
      go_loopw [15, 16] (fun vf vi wr => ∃ (i fr : Nat), i ≤ m ∧ fr ≤ 300 ∧ vf = .int .i64 fr ∧ vi = .int .i64 i ∧ Hid (A.drop i = Fi.allF t.toList p.toList (t.toList.length + 1) fr) ∧ Hid (Below w2.heap.size w2 wr)) (fun _ vi _ => m - (intOf vi).toNat)
      case atStart => exact ⟨0, 0, by omega, by omega, rfl, rfl, by rw [Hid, HAE.out]; rfl, Below.refl _ _⟩
      case round =>
        obtain ⟨i, fr, hi, hfr, rfl, rfl, HDR, HB⟩ := hrel
        by_cases hlt : i < m
        · have hltz : (i : Int) < m := by omega
          obtain ⟨g, rfl, hcg⟩ := HCA.out i hlt
          have a0 := (HB.out.cell (p := ⟨g, i, none⟩) (World.block_lt_of_cell? _ _ hcg)).trans hcg
          obtain ⟨y1, y2, y3, y4⟩ := next_at HPN.out (by rw [HMA.out]; exact hlt) HDR.out
          have y5 := Fi.isAt_le HPN.out y2
          rw [Kb.len_eq, Kb.len_eq] at y5
          have hx1 := ext_at t p (A.getD i 0)
          have hx2 := ext_ne t p (A.getD i 0)
          rw [y2] at hx1 hx2
          obtain ⟨x, hx⟩ : ∃ x, A.getD i 0 = x := ⟨_, rfl⟩
          rw [hx] at a0 y1 y3 y4 y5 hx1 hx2
          have HY3 : Hid (∀ k, fr ≤ k → k < x → Fi.isAt t.toList p.toList k = false) := y3
          have HY4 : Hid (A.drop (i + 1) = Fi.allF t.toList p.toList (t.toList.length + 1) (x + p.size)) := by rw [Hid, y4, Kb.len_eq p]
          have d1 : decide ((x : Int) < (fr : Int)) = false := decide_eq_false (by omega)
          have d1n : decide (x < fr) = false := decide_eq_false (by omega)
          have d2 : decide ((t.size : Int) < (x : Int) + (p.size : Int)) = false := decide_eq_false (by omega)
          have d3 : (0 : Int) ≤ (x : Int) + (p.size : Int) := by omega
          have d4 : (x : Int) ≤ (x : Int) + (p.size : Int) := by omega
          have d5 : (x : Int) + (p.size : Int) ≤ (t.size : Int) := by omega
          have d6 : ((x : Int) + (p.size : Int)).toNat = x + p.size := by omega
          clear hx y2 y3 y4 hcg
          go_wp2_with fail
          go_quiet (fail)
          generalize hwq : World.drewN _ _ = wq
          have HBQ : Hid (Below w2.heap.size w2 wq) := by rw [← hwq]; exact bel_drew HB.out _
          have a1 : wq.cell? ⟨g, i, none⟩ = some (.int .i64 (x : Int)) := by rw [← hwq]; exact a0
          clear hwq a0 hx1 hx2 d1 d1n d2 d6
          go_wp2_with fail
          go_loopw [17] (fun vk wx => ∃ (k : Nat), fr ≤ k ∧ k ≤ x ∧ vk = .int .i64 k ∧ wq = wx) (fun vk _ => x - (intOf vk).toNat)
          case atStart => exact ⟨fr, Nat.le_refl _, y1, rfl, rfl⟩
          case round =>
            obtain ⟨k, hk1, hk2, rfl, rfl⟩ := hrel
            by_cases hkx : k < x
            · have hkz : (k : Int) < x := by omega
              have e2 := HY3.out k hk1 hkx
              have f1 : ((t.extract k (k + p.size)).toList == p.toList) = false := by rw [ext_at]; exact e2
              have f2 : (k : Int) + (p.size : Int) ≤ (t.size : Int) := by omega
              have f3 : (0 : Int) ≤ (k : Int) + (p.size : Int) := by omega
              have f4 : (k : Int) ≤ (k : Int) + (p.size : Int) := by omega
              have f5 : ((k : Int) + (p.size : Int)).toNat = k + p.size := by omega
              clear e2
              go_wp2_with fail
              go_roundw
              case rel => exact ⟨k + 1, by omega, by omega, by go_num, by first | trivial | rfl⟩
              case measure => simp [intOf]; omega
            · have hkz : ¬ (k : Int) < x := by omega
              go_wp2_with fail
              go_roundw
              case rel => exact ⟨i + 1, x + p.size, by omega, by omega, by go_num, by go_num, HY4, HBQ⟩
              case measure => simp [intOf]; omega
        · have hltz : ¬ (i : Int) < m := by omega
          go_wp2_with fail
          go_meet
          case rel => exact bel HB2.out HB.out
  case rest =>
  have HB3 : Hid (Below w.heap.size w wc) := hcut
  clear HB2 HCA HA HBB HK2 HMA x1 x2 hcut HM1
  go_wp2_with fail
  refine (F5.lines_any t wd wc HMX.out.2).mono ?_
  rintro e w3 ⟨v3, L, he3, hL, ho3, hb3⟩
  obtain ⟨q3, c3, rfl⟩ := F5.own_shape ho3
  have HB4 : Hid (Below w.heap.size w w3) := bel HB3.out hb3
  have HL : Hid (L.map (fun b => b.toList) = F5.linesR t wd) := hL
  have HCL0 : Hid (∀ j, j < L.length → ∃ g, q3 = some ⟨g, 0, none⟩ ∧ w3.cell? ⟨g, j, none⟩ = some (.string (L.getD j ByteArray.empty))) := fun j hj => str_cell ho3 j hj
  obtain ⟨k3, hk3⟩ : ∃ k3, k3 = F5.linesE t wd := ⟨_, rfl⟩
  rw [← hk3] at he3
  have HK3 : Hid (k3 = F5.linesE t wd) := hk3
  have x1 : ∀ W, (binOp .eql 25 (errV k3) .nilIface).run Tryz.prog W = .ok (.bool (k3 == 0)) W := fun W => err_nil _ W
  have x2 : ∀ (x : Nat) (W : World), (eqGuard .eql 25 (.tmp x) (.const .nilIface) (errV k3) .nilIface).run Tryz.prog W = .ok () W := fun x W => err_guard _ x W
  obtain ⟨ev3, hev3⟩ : ∃ ev3, errV k3 = ev3 := ⟨_, rfl⟩
  obtain ⟨b3, hb3'⟩ : ∃ b3 : Bool, (k3 == 0) = b3 := ⟨_, rfl⟩
  rw [hev3] at he3 x1 x2
  rw [hb3'] at x1
  have HBB : Hid ((k3 == 0) = b3) := hb3'
  subst he3
  obtain ⟨nL, hnL⟩ : ∃ nL, L.length = nL := ⟨_, rfl⟩
  rw [hnL] at HCL0 ⊢
  have HNL : Hid (L.length = nL) := hnL
  clear hk3 hev3 hb3' ho3 hb3 hnL hL
  go_wp2_with fail
  refine (F3.words_any t w3 HMX.out.2).mono ?_
  rintro e w4 ⟨v4, ws, he4, hws, ho4, hb4⟩
  obtain ⟨q4, c4, rfl⟩ := F5.own_shape ho4
  have HB5 : Hid (Below w.heap.size w w4) := bel HB4.out hb4
  have HW : Hid (ws.map (fun b => b.toList) = F3.wordsR t) := hws
  have HCL : Hid (∀ j, j < nL → ∃ g, q3 = some ⟨g, 0, none⟩ ∧ w4.cell? ⟨g, j, none⟩ = some (.string (L.getD j ByteArray.empty))) := fun j hj => by
    obtain ⟨g, e1, e2⟩ := HCL0.out j hj
    exact ⟨g, e1, (hb4.cell (p := ⟨g, j, none⟩) (World.block_lt_of_cell? _ _ e2)).trans e2⟩
  have HCW : Hid (∀ j, j < ws.length → ∃ g, q4 = some ⟨g, 0, none⟩ ∧ w4.cell? ⟨g, j, none⟩ = some (.string (ws.getD j ByteArray.empty))) := fun j hj => str_cell ho4 j hj
  have HK4 : Hid (b3 = true → F5.linesE t wd = 0 ∧ F3.wordsE t = 0) := fun h => by
    have h0 : F5.linesE t wd = 0 := by
      rw [← HK3.out]
      rw [h] at HBB
      simpa using HBB.out
    refine ⟨h0, ?_⟩
    unfold F5.linesE at h0
    unfold F3.wordsE
    by_cases h9 : 300 < t.size
    · rw [if_pos h9] at h0; exact absurd h0 (by decide)
    · rw [if_neg h9]
  obtain ⟨k4, hk4⟩ : ∃ k4, k4 = F3.wordsE t := ⟨_, rfl⟩
  rw [← hk4] at he4 HK4
  have x3 : ∀ W, (binOp .eql 25 (errV k4) .nilIface).run Tryz.prog W = .ok (.bool (k4 == 0)) W := fun W => err_nil _ W
  have x4 : ∀ (x : Nat) (W : World), (eqGuard .eql 25 (.tmp x) (.const .nilIface) (errV k4) .nilIface).run Tryz.prog W = .ok () W := fun x W => err_guard _ x W
  obtain ⟨ev4, hev4⟩ : ∃ ev4, errV k4 = ev4 := ⟨_, rfl⟩
  obtain ⟨b4, hb4'⟩ : ∃ b4 : Bool, (k4 == 0) = b4 := ⟨_, rfl⟩
  have HB44 : Hid (b3 = true → F5.linesE t wd = 0 ∧ b4 = true) := fun h => ⟨(HK4.out h).1, by rw [← hb4', (HK4.out h).2]; rfl⟩
  rw [hev4] at he4 x3 x4
  rw [hb4'] at x3
  subst he4
  obtain ⟨nW, hnW⟩ : ∃ nW, ws.length = nW := ⟨_, rfl⟩
  rw [hnW] at HCW ⊢
  have HNW : Hid (ws.length = nW) := hnW
  clear hk4 hev4 hb4' ho4 hb4 hnW hws HCL0 HB4 HB3 HBB HK3 HK4
  go_upto_region 20 with fail
  go_cut [149] from 144 to 149 (fun s149 wx => ∃ b : Bool, s149 = .bool b ∧ Hid (b = true → F5.linesE t wd = 0) ∧ w4 = wx)
  case first =>
    cases b3
    case false =>
      go_wp2_with fail
      go_meet
      case rel => exact ⟨false, rfl, (fun e => by cases e), rfl⟩
    case true =>
      obtain ⟨z0, rfl⟩ := HB44.out rfl
      go_wp2_with fail
      go_meet
      case rel => exact ⟨true, rfl, fun _ => z0, rfl⟩
  case rest =>
  obtain ⟨bq, rfl, HBQ, rfl⟩ := hcut
  clear x1 x2 x3 x4 HB44
  go_upto_if 149 with fail
  go_cut [22, 23, 24, 25, 26, 27] from 150 to 201 (fun _ _ _ _ _ _ wx => Hid (Below w.heap.size w wx))
  case first =>
    cases bq
    case false =>
      go_wp2_with fail
      go_meet
      case rel => exact HB5
    case true =>
      have hE0 := HBQ.out rfl
      obtain ⟨hw1, hw2, ht3⟩ := lines_zero hE0
      obtain ⟨nw, rfl⟩ : ∃ nw : Nat, wd = nw := ⟨wd.toNat, by omega⟩
      have HLL : Hid (L.map (fun b => b.toList) = Fi.lines nw t.toList) := by rw [Hid, HL.out]; unfold F5.linesR; rw [if_pos hE0, Int.toNat_natCast]
      have HWW : Hid (ws.map (fun b => b.toList) = Fi.words t.toList) := by rw [Hid, HW.out]; unfold F3.wordsR; rw [if_neg (by omega)]
      have HOK : Hid (∀ i, i < nL → (L.getD i ByteArray.empty).size ≤ nw ∧ (L.getD i ByteArray.empty).toList ≠ []) := fun i hi => by
        have h9 : (L.getD i ByteArray.empty).toList ∈ Fi.lines nw t.toList := by
          rw [← HLL.out, List.getD_eq_getElem?_getD, List.getElem?_eq_getElem (by rw [HNL.out]; exact hi)]
          exact List.mem_map.2 ⟨_, List.getElem_mem _, rfl⟩
        have h8 := (Fi.lines_ok (n := nw) (by omega) t.toList).1 _ h9
        rw [Kb.len_eq] at h8
        exact ⟨h8.2, h8.1⟩
      have HTOT : Hid (flatC L = (Fi.words t.toList).flatten) := by
        rw [Hid, ← Fi.lines_words (n := nw) (by omega) t.toList, ← HLL.out]; unfold flatC; rw [List.flatMap_map]
      have HT3 : Hid ((Fi.words t.toList).flatten.length ≤ 300) := by
        rw [Hid, Fi.words_flat]
        have h9 := List.length_filter_le (fun x : UInt8 => x != 32) t.toList
        rw [Kb.len_eq] at h9
        omega
      have HLN : Hid (nL ≤ 1000) := by
        have h9 := F5.fold_len (n := nw) (by omega) (Fi.words t.toList) []
        have h8 := (F3.words_len t.toList).1
        have h7 := congrArg List.length HLL.out
        rw [List.length_map, HNL.out] at h7
        rw [Kb.len_eq] at h8
        have h6 := HT3.out
        have h5 : ([] : List (List UInt8)).length = 0 := rfl
        unfold Fi.lines at h7
        rw [Hid, h7]; omega
      have hnL : nL ≤ 1000 := HLN.out
      have hnW : nW ≤ 301 := by
        have h8 := (F3.words_len t.toList).1
        have h7 := congrArg List.length HWW.out
        rw [List.length_map, HNW.out] at h7
        rw [Kb.len_eq] at h8
        omega
      clear hE0 HL HW
      go_wp2_with fail
      go_loopw [22, 24] (fun va vi wr => ∃ (i : Nat) (x : ByteArray), i ≤ nL ∧ va = .string x ∧ vi = .int .i64 i ∧ x.size ≤ 300 ∧ Hid (x.toList = flatC (L.take i)) ∧ Hid (Below w4.heap.size w4 wr)) (fun _ vi _ => nL - (intOf vi).toNat)
      case atStart => exact ⟨0, ⟨#[]⟩, by omega, rfl, rfl, by decide, by rw [Hid, ByteArray.toList_eq]; rfl, Below.refl _ _⟩
      case round =>
        obtain ⟨i, x, hi, rfl, rfl, hxs, HX, HB⟩ := hrel
        by_cases hlt : i < nL
        · have hltz : (i : Int) < nL := by omega
          have hiL : i < L.length := by rw [HNL.out]; exact hlt
          obtain ⟨g, rfl, hcg⟩ := HCL.out i hlt
          have a0 := (HB.out.cell (p := ⟨g, i, none⟩) (World.block_lt_of_cell? _ _ hcg)).trans hcg
          obtain ⟨y1, y2⟩ := HOK.out i hlt
          have HNX := flatC_next hiL
          have HPR := flatC_le L (i + 1)
          obtain ⟨s, hs⟩ : ∃ s, L.getD i ByteArray.empty = s := ⟨_, rfl⟩
          rw [hs] at a0 y1 y2 HNX
          have HNX2 : Hid (flatC (L.take (i + 1)) = flatC (L.take i) ++ (Fi.cutC 32 s.data.toList).flatten) := by rw [Hid, HNX, ByteArray.toList_eq]
          have HPR2 : Hid ((flatC (L.take (i + 1))).length ≤ 300) := by rw [HTOT.out] at HPR; have := HT3.out; rw [Hid]; omega
          have s1 : ¬ (nw : Int) < (s.size : Int) := by omega
          have s2 : (s.toList == []) = false := by rw [beq_eq_false_iff_ne]; exact y2
          have s3 : (s.size : Int) ≤ 100 := by omega
          have C := Fr.cut_any s wr (by omega)
          clear hs hcg y2 HNX HPR
          go_wp2_with fail
          refine C.mono ?_
          rintro e w5 ⟨g5, c5, ps, rfl, hps, hc5, hb5⟩
          have HB5' : Hid (Below w4.heap.size w4 w5) := bel HB.out hb5
          have HPS : Hid (ps.map (fun b => b.data.toList) = Fi.cutC 32 s.data.toList) := hps
          have HC5 : Hid (∀ j, j < ps.length → w5.cell? ⟨g5, 0 + j, none⟩ = some (.string (ps.getD j ByteArray.empty))) := hc5
          have hpl : ps.length ≤ 101 := by
            have h9 := congrArg List.length hps
            rw [List.length_map] at h9
            have h8 := cut_len s.data.toList
            have h7 : s.data.toList.length = s.size := rfl
            omega
          obtain ⟨nP, hnP⟩ : ∃ nP, ps.length = nP := ⟨_, rfl⟩
          rw [hnP] at hpl HC5 ⊢
          have HNP : Hid (ps.length = nP) := hnP
          clear C hps hc5 hb5 hnP a0
          go_wp2_with fail
          go_loopw [22, 26] (fun va vk wx => ∃ (k : Nat) (y : ByteArray), k ≤ nP ∧ va = .string y ∧ vk = .int .i64 k ∧ y.size ≤ 300 ∧ Hid (y.toList = x.toList ++ flatB (ps.take k)) ∧ w5 = wx) (fun _ vk _ => nP - (intOf vk).toNat)
          case atStart => exact ⟨0, x, by omega, rfl, rfl, hxs, by rw [Hid]; simp [flatB], rfl⟩
          case round =>
            obtain ⟨k, y, hk, rfl, rfl, hys, HY, rfl⟩ := hrel
            by_cases hkp : k < nP
            · have hkz : (k : Int) < nP := by omega
              have hkl : k < ps.length := by rw [HNP.out]; exact hkp
              have a5 := HC5.out k hkp
              rw [Nat.zero_add] at a5
              have HNB := flatB_next hkl
              have HLB := flatB_le ps (k + 1)
              obtain ⟨z, hz⟩ : ∃ z, ps.getD k ByteArray.empty = z := ⟨_, rfl⟩
              rw [hz] at a5 HNB
              have HY2 : Hid ((y ++ z).toList = x.toList ++ flatB (ps.take (k + 1))) := by rw [Hid, F5.app_list, HY.out, HNB, List.append_assoc]
              have hsz : y.size + z.size ≤ 300 := by
                have h9 := congrArg List.length HY2.out
                rw [Kb.len_eq, ByteArray.size_append, List.length_append, HX.out] at h9
                have h8 := congrArg List.length HNX2.out
                rw [List.length_append, ← HPS.out] at h8
                have h7 := HPR2.out
                have h6 : (ps.map (fun b => b.data.toList)).flatten.length = (flatB ps).length := by
                  unfold flatB
                  rw [List.flatMap_def]
                  congr 2
                  exact List.map_congr_left fun b _ => (ByteArray.toList_eq b).symm
                omega
              have hszz : (y.size : Int) + (z.size : Int) ≤ 300 := by omega
              have hys2 : y.size ≤ 300 := by omega
              have hzs2 : z.size ≤ 300 := by omega
              clear hz HNB HLB
              go_wp2_with fail
              go_roundw
              case rel => exact ⟨k + 1, y ++ z, by omega, by first | rfl | (simp; done), by go_num, by rw [ByteArray.size_append]; omega, HY2, by first | trivial | rfl⟩
              case measure => simp [intOf]; omega
            · have hkz : ¬ (k : Int) < nP := by omega
              have HY3 : Hid (y.toList = flatC (L.take (i + 1))) := by
                have e1 : ps.take k = ps := List.take_of_length_le (by rw [HNP.out]; omega)
                rw [Hid, HY.out, e1, HNX2.out, HX.out, ← HPS.out]
                unfold flatB
                rw [List.flatMap_def]
                congr 2
                exact List.map_congr_left fun b _ => ByteArray.toList_eq b
              go_wp2_with fail
              go_roundw
              case rel => exact ⟨i + 1, y, by omega, rfl, by go_num, hys, HY3, HB5'⟩
              case measure => simp [intOf]; omega
        · have hltz : ¬ (i : Int) < nL := by omega
          have HXE : Hid (x.toList = (Fi.words t.toList).flatten) := by rw [Hid, HX.out, List.take_of_length_le (by rw [HNL.out]; omega), HTOT.out]
          go_wp2_with fail
          go_loopw [23, 27] (fun vb vk wx => ∃ (k : Nat) (y : ByteArray), k ≤ nW ∧ vb = .string y ∧ vk = .int .i64 k ∧ y.size ≤ 300 ∧ Hid (y.toList = flatB (ws.take k)) ∧ wr = wx) (fun _ vk _ => nW - (intOf vk).toNat)
          case atStart => exact ⟨0, ⟨#[]⟩, by omega, rfl, rfl, by decide, by rw [Hid, ByteArray.toList_eq]; rfl, rfl⟩
          case round =>
            obtain ⟨k, y, hk, rfl, rfl, hys, HY, rfl⟩ := hrel
            by_cases hkp : k < nW
            · have hkz : (k : Int) < nW := by omega
              have hkl : k < ws.length := by rw [HNW.out]; exact hkp
              obtain ⟨g, rfl, hcg⟩ := HCW.out k hkp
              have a5 := (HB.out.cell (p := ⟨g, k, none⟩) (World.block_lt_of_cell? _ _ hcg)).trans hcg
              have HNB := flatB_next hkl
              have HLB := flatB_le ws (k + 1)
              obtain ⟨z, hz⟩ : ∃ z, ws.getD k ByteArray.empty = z := ⟨_, rfl⟩
              rw [hz] at a5 HNB
              have HY2 : Hid ((y ++ z).toList = flatB (ws.take (k + 1))) := by rw [Hid, F5.app_list, HY.out, HNB]
              have hsz : y.size + z.size ≤ 300 := by
                have h9 := congrArg List.length HY2.out
                rw [Kb.len_eq, ByteArray.size_append] at h9
                have h8 : flatB ws = (Fi.words t.toList).flatten := by rw [← HWW.out]; unfold flatB; rw [List.flatMap_def]
                rw [h8] at HLB
                have h7 := HT3.out
                omega
              have hszz : (y.size : Int) + (z.size : Int) ≤ 300 := by omega
              have hys2 : y.size ≤ 300 := by omega
              have hzs2 : z.size ≤ 300 := by omega
              clear hz HNB HLB hcg
              go_wp2_with fail
              go_roundw
              case rel => exact ⟨k + 1, y ++ z, by omega, by first | rfl | (simp; done), by go_num, by rw [ByteArray.size_append]; omega, HY2, by first | trivial | rfl⟩
              case measure => simp [intOf]; omega
            · have hkz : ¬ (k : Int) < nW := by omega
              have hxy : x = y := by
                apply F3.bytes_inj
                rw [HXE.out, HY.out, List.take_of_length_le (by rw [HNW.out]; omega), ← HWW.out]
                unfold flatB; rw [List.flatMap_def]
              subst hxy
              have hself : (x.toList != x.toList) = false := by simp
              have hself2 : (x.toList == x.toList) = true := by simp
              go_wp2_with fail
              go_meet
              case rel => exact bel HB5.out HB.out
  case rest =>
  have HB6 : Hid (Below w.heap.size w wc) := hcut
  clear HB5 HCL HCW HL HW HNL HNW HBQ hcut
  go_wp2_with fail
  refine (new_any wc).mono ?_
  rintro e w5 ⟨D, Fq, rfl, hd5, hf5, hb5⟩
  have HD5 : Hid (DocAt w5 D (run l 0) Fq) := hd5
  have HB7 : Hid (Below w.heap.size w w5) := bel HB6.out hb5
  have HF5 : Hid (∀ g, Fq g → w.heap.size ≤ g) := fun g hg => Nat.le_trans HB6.out.size (hf5 g hg)
  clear hd5 hf5 hb5 HB6
  go_wp2_with fail
  go_loopw [29] (fun vi wr => ∃ (k : Nat) (F : Nat → Prop), k ≤ n ∧ k ≤ 60 ∧ vi = .int .i64 k ∧ Hid (DocAt wr D (run l k) F) ∧ Hid (∀ g, F g → w.heap.size ≤ g) ∧ Hid (Below w.heap.size w wr)) (fun vi _ => 60 - (intOf vi).toNat)
  case atStart => exact ⟨0, Fq, by omega, by omega, rfl, HD5, HF5, HB7⟩
  case round =>
    clear HD5 HF5 HB7
    obtain ⟨k, F, hk, hk60, rfl, HD, HF, HB⟩ := hrel
    go_upto_region 41 with fail
    go_cut [210] from 203 to 218 (fun s43 wx => ∃ t : Bool, s43 = .bool t ∧ Hid (t = decide (k < n ∧ k < 60)) ∧ wr = wx)
    case first =>
      by_cases h1 : k < n
      · have h1z : (k : Int) < n := by omega
        by_cases h2 : k < 60
        · have h2z : (k : Int) < 60 := by omega
          go_wp2_with fail
          go_meet
          case rel => exact ⟨true, rfl, (decide_eq_true ⟨h1, h2⟩).symm, rfl⟩
        · have h2z : ¬ (k : Int) < 60 := by omega
          have H2 : Hid (decide (k < n ∧ k < 60) = false) := decide_eq_false (fun h => h2 h.2)
          go_wp2_with fail
          go_meet
          case rel => exact ⟨false, by simp [h2], H2.out.symm, rfl⟩
      · have h1z : ¬ (k : Int) < n := by omega
        have H2 : Hid (decide (k < n ∧ k < 60) = false) := decide_eq_false (fun h => h1 h.1)
        go_wp2_with fail
        go_meet
        case rel => exact ⟨false, rfl, H2.out.symm, rfl⟩
    case rest =>
    obtain ⟨tt, rfl, HTT, rfl⟩ := hcut
    cases tt
    case true =>
      obtain ⟨hlt1, hlt2⟩ := of_decide_eq_true HTT.out.symm
      have hltz : (k : Int) < n := by omega
      have hkl : k < l.length := by rw [HN.out]; exact hlt1
      obtain ⟨bo, oo, rfl, hc⟩ := HLI.out.some (by intro e; rw [e] at hkl; simp at hkl)
      have ha0 := hc k hkl
      have hxm := HSZ.out _ (getO_mem hkl)
      have HRN : Hid (run l (k + 1) = apS (run l k) (l.getD k oz)) := run_next hkl
      obtain ⟨x, hx⟩ : ∃ x, x = l.getD k oz := ⟨_, rfl⟩
      rw [← hx] at ha0 hxm HRN
      obtain ⟨⟨xa, xb⟩, xt, xp, xc, xs⟩ := x
      obtain ⟨vx, ⟨g0, g1, g2, g3, g4, g5⟩, hdx0⟩ := ha0
      simp only at g0 g1 g2 g3 g4 g5 hdx0 hxm
      obtain ⟨pv, nv, cv, rfl⟩ : ∃ pv nv cv, vx = .slice pv nv cv := by obtain ⟨_, _, e9, _⟩ := hdx0; exact ⟨_, _, _, e9⟩
      have hlt' := World.block_lt_of_cell? _ _ g0
      have a0 := (HB.out.cell (p := ⟨bo, oo + k * 6, none⟩) hlt').trans g0
      have a1 := (HB.out.cell (p := ⟨bo, oo + k * 6 + 1, none⟩) hlt').trans g1
      have a2 := (HB.out.cell (p := ⟨bo, oo + k * 6 + 2, none⟩) hlt').trans g2
      have a3 := (HB.out.cell (p := ⟨bo, oo + k * 6 + 3, none⟩) hlt').trans g3
      have a4 := (HB.out.cell (p := ⟨bo, oo + k * 6 + 4, none⟩) hlt').trans g4
      have a5 := (HB.out.cell (p := ⟨bo, oo + k * 6 + 5, none⟩) hlt').trans g5
      have C := apply_any D (run l k) F xa xb xt xp xc (.slice pv nv cv) xs wr HD.out (hdx0.below HB.out) (off_old hdx0 HF.out) hxm
      clear hc hx hkl hxm hdx0 g0 g1 g2 g3 g4 g5 hlt'
      go_wp2_with fail
      refine C.mono ?_
      rintro e w9 ⟨he, _, F9, hd9, hc9, hf9⟩
      have HD9 : Hid (DocAt w9 D (run l (k + 1)) F9) := by unfold Hid; rw [HRN.out]; exact hd9
      have HB9 : Hid (Below w.heap.size w w9) := hc9.below HF.out HB.out HB.out.size
      have HF9 : Hid (∀ g, F9 g → w.heap.size ≤ g) := fun g hg => by
        rcases hf9 g hg with e | e
        · exact HF.out g e
        · exact Nat.le_trans HB.out.size e
      obtain ⟨ev, hev⟩ : ∃ ev, ev = Value.tuple #[.bool (isNew (run l k) ((xa, xb), xt, xp, xc, xs)), errV (apE (run l k) ((xa, xb), xt, xp, xc, xs))] := ⟨_, rfl⟩
      rw [← hev] at he
      subst he
      clear hd9 hc9 hf9 C a0 a1 a2 a3 a4 a5 hev HD HF HB
      go_wp2_with fail
      go_roundw
      case rel => exact ⟨k + 1, F9, by omega, by omega, by go_num, HD9, HF9, HB9⟩
      case measure => simp [intOf]; omega
    case false =>
      obtain ⟨S, hS⟩ : ∃ S, S = run l k := ⟨_, rfl⟩
      have HI : Hid (Inv S) := by unfold Hid; rw [hS]; exact Iq.run_inv l k
      have HRS : Hid (Rep S) := by unfold Hid; rw [hS]; exact rep_run l k (by rw [HN.out]; exact hk)
      rw [← hS] at HD
      clear hS HSZ HLI HTT
      have CR := replace_any D S F who p ⟨#[]⟩ wr HD.out HRS.out (HM.out.below HB.out) HMX.out.1 (Nat.zero_le _)
      go_wp2_with fail
      refine CR.mono ?_
      rintro e w6 ⟨v6, he6, hv6, hn6, hb6⟩
      have HB8 : Hid (Below w.heap.size w w6) := bel HB.out hb6
      have HD6 : Hid (DocAt w6 D S F) := HD.out.below hb6
      have HFL : Hid (∀ g, F g → g < wr.heap.size) := fun g hg => HD.out.lt g hg
      have CT := text_get D S F w6 HD6.out
      have HTS : Hid ((Lf.textR S.book).toList = Bm.text S.book) := textR_list HI.out.book
      have HT3 : Hid ((Lf.textR S.book).size ≤ 300) := textR_le HI.out
      by_cases hz : repE S who p ⟨#[]⟩ = 0
      case neg =>
        have hv := hn6 hz
        subst hv
        rw [errV_ne hz] at he6
        generalize repE S who p ⟨#[]⟩ = ez at he6
        subst he6
        obtain ⟨T, hT⟩ : ∃ T, T = Lf.textR S.book := ⟨_, rfl⟩
        rw [← hT] at CT HT3
        clear CR hv6 hn6 hb6 hz hT
        go_wp2_with fail
        refine CT.mono ?_
        rintro e w7 ⟨rfl, hb7⟩
        have HB9 : Hid (Below w.heap.size w w7) := bel HB8.out hb7
        clear CT hb7
        go_wp2_with fail
        refine (F2.all_any T p w7 (HM.out.below HB9.out) (by have := HT3.out; unfold maxLen; omega) HMX.out.1).mono ?_
        rintro e w8 ⟨v8, he8, ho8, hb8⟩
        obtain ⟨q8, c8, rfl⟩ := F5.own_shape ho8
        have HB10 : Hid (Below w.heap.size w w8) := bel HB9.out hb8
        obtain ⟨ev8, hev8⟩ : ∃ ev8, errV (allE T p) = ev8 := ⟨_, rfl⟩
        rw [hev8] at he8
        subst he8
        clear ho8 hb8 hev8
        go_wp2_with fail
        go_ret
        exact ⟨rfl, HB10.out⟩
      case pos =>
        obtain ⟨hwho, hall, hrp⟩ := rep_zero_parts hz
        have hv := hv6 hz
        obtain ⟨p6, c6, rfl⟩ := opsJ_shape hv
        rw [hz, errV_zero] at he6
        subst he6
        obtain ⟨z1, z2, z3⟩ := all_zero hall
        have HPN : Hid (p.toList ≠ []) := fun e => z3 (by rw [← Kb.len_eq, e]; rfl)
        obtain ⟨r1, r2⟩ := rp_text hwho.1 hwho.2 (Fi.all (Lf.textR S.book).toList p.toList).reverse S HI.out (by
          have h9 := all_desc (t := (Lf.textR S.book).toList) HPN.out
          rw [Kb.len_eq p, HTS.out] at h9
          rw [HTS.out]; exact h9) hrp
        have HR1 : Hid (runE S (repL S who p ⟨#[]⟩) = 0) := r1
        have HR2 : Hid ((Bm.text (runS S (repL S who p ⟨#[]⟩)).book).length + (Fi.all (Lf.textR S.book).toList p.toList).length * p.size = (Lf.textR S.book).size) := by
          have h9 := r2
          rw [List.length_reverse] at h9
          have h8 := congrArg List.length HTS.out
          rw [Kb.len_eq] at h8
          rw [Hid, h8]; exact h9
        have HMAX : Hid (∀ o ∈ repL S who p ⟨#[]⟩, o.2.2.1.size ≤ maxLen) := rep_max HI.out hwho.1 hwho.2 hrp
        have HXG : Hid (OpsG (New wr.heap.size w6) w6 (.slice p6 (repL S who p ⟨#[]⟩).length c6) (repL S who p ⟨#[]⟩)) := opsG_J hv
        have HXF : Hid (∀ g, New wr.heap.size w6 g → g < w6.heap.size ∧ ¬ F g) := fun g hg => ⟨hg.2, fun e => by have := HFL.out g e; have := hg.1; omega⟩
        have HTXT : Hid (∀ A' : List Bm.Leaf, A' = (runS S (repL S who p ⟨#[]⟩)).book → (Lf.textR A').size = (Bm.text (runS S (repL S who p ⟨#[]⟩)).book).length) := fun A' e => by
          rw [e, ← Kb.len_eq, textR_list (Um.run_inv _ HI.out).book]
        have HIR : Hid (Inv (runS S (repL S who p ⟨#[]⟩))) := Um.run_inv _ HI.out
        obtain ⟨R, hR⟩ : ∃ R, R = repL S who p ⟨#[]⟩ := ⟨_, rfl⟩
        obtain ⟨T, hT⟩ : ∃ T, T = Lf.textR S.book := ⟨_, rfl⟩
        rw [← hR] at HR1 HR2 HMAX HXG HTXT HIR
        rw [← hT] at CT HT3 HR2 hall
        obtain ⟨nR, hnR⟩ : ∃ nR, R.length = nR := ⟨_, rfl⟩
        rw [← hR, hnR]
        rw [hnR] at HXG
        clear CR hv6 hn6 hb6 hz hv r1 r2 hrp hwho hT hR hnR
        go_wp2_with fail
        refine CT.mono ?_
        rintro e w7 ⟨rfl, hb7⟩
        have HB9 : Hid (Below w.heap.size w w7) := bel HB8.out hb7
        have HD7 : Hid (DocAt w7 D S F) := HD6.out.below hb7
        have HXG7 : Hid (OpsG (New wr.heap.size w6) w7 (.slice p6 nR c6) R) := HXG.out.stay fun g hg => hb7.block g hg.2
        have HSZ7 : Hid (w6.heap.size ≤ w7.heap.size) := hb7.size
        clear CT hb7
        go_wp2_with fail
        refine (all_cells T p w7 (HM.out.below HB9.out) HT3.out z2 z3).mono ?_
        rintro e w8 ⟨q8, n8, c8, rfl, HN8, HC8, HBB8⟩
        have HB10 : Hid (Below w.heap.size w w8) := bel HB9.out HBB8.out
        have HD8 : Hid (DocAt w8 D S F) := HD7.out.below HBB8.out
        have HXG8 : Hid (OpsG (New wr.heap.size w6) w8 (.slice p6 nR c6) R) := HXG7.out.stay fun g hg => HBB8.out.block g (Nat.lt_of_lt_of_le hg.2 HSZ7.out)
        have CD := do_any D S F (New wr.heap.size w6) (.slice p6 nR c6) R w8 HD8.out HXG8.out (fun g hg => ⟨Nat.lt_of_lt_of_le hg.2 (Nat.le_trans HSZ7.out HBB8.out.size), (HXF.out g hg).2⟩) HMAX.out
        clear HC8
        go_wp2_with fail
        refine CD.mono ?_
        rintro e w9 ⟨he9, F9, hd9, hc9, hf9⟩
        rw [HR1.out, errV_zero] at he9
        subst he9
        have HB11 : Hid (Below w.heap.size w w9) := hc9.below HF.out HB10.out HB10.out.size
        have CT := text_get D (runS S R) F9 w9 hd9
        have HTZ := HTXT.out _ rfl
        obtain ⟨T2, hT2⟩ : ∃ T2, T2 = Lf.textR (runS S R).book := ⟨_, rfl⟩
        rw [← hT2] at CT HTZ
        have hN : T2.size + n8 * p.size = T.size := by rw [HTZ, ← HN8.out]; exact HR2.out
        obtain ⟨mm, hmm⟩ : ∃ mm, n8 * p.size = mm := ⟨_, rfl⟩
        rw [hmm] at hN
        have hmz : (n8 : Int) * (p.size : Int) = (mm : Int) := by rw [← hmm]; simp
        have hT3 := HT3.out
        have hTT : (T.size : Int) - (mm : Int) = (T2.size : Int) := by omega
        clear hd9 hc9 hf9 CD hT2 HTZ hmm
        go_wp2_with fail
        refine CT.mono ?_
        rintro e w10 ⟨rfl, hb10⟩
        have HB12 : Hid (Below w.heap.size w w10) := bel HB11.out hb10
        clear CT hb10
        go_wp2_with fail
        go_ret
        exact ⟨ret_bool (by simp only [hmz, hTT] <;> (first | (simp; done) | omega)), HB12.out⟩

end F8
end Go.Proofs.YtlmdchpbpgcfmaaGreat
