
import Derived.Test.YtnbnniapllkjlaaGreatDoorBl
namespace Go.Proofs.YtnbnniapllkjlaaGreatDoor
namespace Bt
set_option linter.unusedVariables false
set_option linter.unusedSimpArgs false
open Go.ChangeShapes Go.WideShapes Go.ChangeAt Go.RowKit Cm Ka Kb Na Om Oa Oz Oc Og Oi Hm Ia Ic Ie Im Um Ba Bf Bg Bh Bi Bj Bk Bl
open La (bel bel_drew own_below flat errV_ne errV_zero)
def lastIn (who : Int) (l : List Ox) : Option Ox := (l.filter fun o => decide (o.1.1 = who)).getLast?
def lastE (S : Dq) (who : Int) : Int := if Pm.isWho who = false then 1 else if lastIn who S.ops = none then 5 else 0
def lastO (S : Dq) (who : Int) : Ox := if Pm.isWho who = false then oz else (lastIn who S.ops).getD oz
theorem last_next {who : Int} {l : List Ox} {k : Nat} (hk : k < l.length) : lastIn who (l.take (k + 1)) = if (l.getD k oz).1.1 = who then some (l.getD k oz) else lastIn who (l.take k) := by
 unfold lastIn
 rw [List.take_succ_eq_append_getElem hk, List.filter_append, List.getD_eq_getElem?_getD, List.getElem?_eq_getElem hk]
 simp only [Option.getD_some]
 by_cases h : l[k].1.1 = who
 ·rw [if_pos h]; simp [h]
 ·rw [if_neg h]; simp [h]
def LaPost (w : World) (E : Int) (x : Ox) (e : Ending) (w' : World) : Prop := ∃ v, e = .returned (.tuple #[.agg #[.int .i64 x.1.1, .int .i64 x.1.2, .int .i64 x.2.1, .string x.2.2.1, .int .i64 x.2.2.2.1, v], errV E]) ∧ DtsAt w' v x.2.2.2.2 ∧ Below w.heap.size w w'
set_option maxRecDepth 100000 in
set_option maxHeartbeats 4000000 in
theorem last_any (D : Nat) (S : Dq) (F : Nat → Prop) (who : Int) (w : World) (h : DocAt w D S F) :
  Calls Tryz.prog 10 #[.pointer (some ⟨D, 0, none⟩), .int .i64 who] w (LaPost w (lastE S who) (lastO S who)) := by
 have HB0 : Hid (Below w.heap.size w (w.alloc (.cells #[.int .i64 0, .int .i64 0, .int .i64 0, .string ⟨#[]⟩, .int .i64 0, .slice none 0 0] 33))) := (Below.refl _ w).alloc (Nat.le_refl _) _
 have HR0 : Hid ((w.alloc (.cells #[.int .i64 0, .int .i64 0, .int .i64 0, .string ⟨#[]⟩, .int .i64 0, .slice none 0 0] 33)).heap[w.heap.size]? = some (.cells #[.int .i64 0, .int .i64 0, .int .i64 0, .string ⟨#[]⟩, .int .i64 0, .slice none 0 0] 33)) := heap_alloc_new w _
 have CA := fun W => author_any who W
 cases hw : Pm.isWho who with
 | false =>
  have hE : lastE S who = 1 := by unfold lastE; rw [if_pos hw]
  have hO : lastO S who = oz := by unfold lastO; rw [if_pos hw]
  rw [hE, hO]
  rw [hw] at CA
  clear h hE hO hw
  have z0 := blk_cell HR0.out (i := 0) (u := .int .i64 0) rfl
  have z1 := blk_cell HR0.out (i := 1) (u := .int .i64 0) rfl
  have z2 := blk_cell HR0.out (i := 2) (u := .int .i64 0) rfl
  have z3 := blk_cell HR0.out (i := 3) (u := .string ⟨#[]⟩) rfl
  have z4 := blk_cell HR0.out (i := 4) (u := .int .i64 0) rfl
  have z5 := blk_cell HR0.out (i := 5) (u := .slice none 0 0) rfl
  go_enter Tryz.func10, Tryz.ntmps10
  go_wp2_with fail
  refine (CA _).mono ?_
  rintro e w1 ⟨rfl, hw9⟩
  obtain rfl := hw9.symm
  clear CA
  go_wp2_with fail
  (try simp only [Exit.inBlock, Exit.then])
  refine bodyPost_ret (v := .tuple #[opZ, .iface 76 (.int .i64 1)]) ?_ rfl ?_
  ·simp [results]
   rw [show ∀ W, (asAddr (Value.pointer (some ⟨w.heap.size, 0, none⟩))).run Tryz.prog W = .ok ⟨w.heap.size, 0, none⟩ W from fun _ => rfl]
   simp [If.load_op HR0.out, Result.andThen]
   rfl
  ·exact ⟨_, by rw [errV_ne (by decide)]; rfl, DtsAt.nil _, HB0.out⟩
 | true =>
  have CO := opsOf_any D S F who _ (h.below HB0.out)
  have HLO : Hid (lastE S who = (if lastIn who S.ops = none then 5 else 0) ∧ lastO S who = (lastIn who S.ops).getD oz) := ⟨by unfold lastE; rw [if_neg (by rw [hw]; simp)], by unfold lastO; rw [if_neg (by rw [hw]; simp)]⟩
  have hml : (mine S who).length ≤ 400 := Nat.le_trans (List.length_filter_le _ _) h.inv.few
  rw [hw] at CA
  obtain ⟨EE, hEE⟩ : ∃ EE, lastE S who = EE := ⟨_, rfl⟩
  obtain ⟨XX, hXX⟩ : ∃ XX, lastO S who = XX := ⟨_, rfl⟩
  rw [hEE, hXX] at HLO ⊢
  clear h hw hEE hXX
  go_enter Tryz.func10, Tryz.ntmps10
  go_wp2_with fail
  refine (CA _).mono ?_
  rintro e w1 ⟨rfl, hw9⟩
  obtain rfl := hw9.symm
  clear CA
  go_wp2_with fail
  refine CO.mono ?_
  rintro e w2 ⟨v2, rfl, hn2, hb2⟩
  obtain ⟨g, c, L, rfl, hg, hL, hr, hlc, hc, ho⟩ := hn2
  have HB2 : Hid (Below w.heap.size w w2) := bel HB0.out hb2
  have HR2 : Hid (w2.heap[w.heap.size]? = some (.cells #[.int .i64 0, .int .i64 0, .int .i64 0, .string ⟨#[]⟩, .int .i64 0, .slice none 0 0] 33)) := by rw [Hid, hb2.block _ (by simp)]; exact HR0.out
  have HRW : Hid (RowO w2 g c L ∧ ∀ y ∈ L, w2.ownsRow (w.alloc (.cells #[.int .i64 0, .int .i64 0, .int .i64 0, .string ⟨#[]⟩, .int .i64 0, .slice none 0 0] 33)).heap.size 30 2 y.2 y.1.2.2.2.2.length (flatD y.1.2.2.2.2)) := ⟨hr, ho⟩
  have HML : Hid (L.map (·.1) = mine S who) := hL
  obtain ⟨l, hl⟩ : ∃ l, (mine S who).length = l := ⟨_, rfl⟩
  rw [hl] at hml hlc ⊢
  have HLL : Hid (L.length = l) := by rw [Hid, ← hl, ← hL, List.length_map]
  have HZ : Hid ((w.alloc (.cells #[.int .i64 0, .int .i64 0, .int .i64 0, .string ⟨#[]⟩, .int .i64 0, .slice none 0 0] 33)).heap.size = w.heap.size + 1) := by rw [Hid]; simp
  have HGN : Hid (g ≠ w.heap.size) := by have := HZ.out; rw [Hid]; omega
  clear CO hg hL hr ho hb2
  have z0 := blk_cell HR2.out (i := 0) (u := .int .i64 0) rfl
  have z1 := blk_cell HR2.out (i := 1) (u := .int .i64 0) rfl
  have z2 := blk_cell HR2.out (i := 2) (u := .int .i64 0) rfl
  have z3 := blk_cell HR2.out (i := 3) (u := .string ⟨#[]⟩) rfl
  have z4 := blk_cell HR2.out (i := 4) (u := .int .i64 0) rfl
  have z5 := blk_cell HR2.out (i := 5) (u := .slice none 0 0) rfl
  have y0 := blk_free HR2.out (i := 0)
  have y1 := blk_free HR2.out (i := 1)
  have y2 := blk_free HR2.out (i := 2)
  have y3 := blk_free HR2.out (i := 3)
  have y4 := blk_free HR2.out (i := 4)
  have y5 := blk_free HR2.out (i := 5)
  by_cases h0 : l = 0
  ·subst h0
   have hmn : mine S who = [] := List.eq_nil_of_length_eq_zero hl
   have HIN : Hid (lastIn who S.ops = none) := by unfold Hid lastIn; unfold mine at hmn; rw [hmn]; rfl
   have HEX : Hid (EE = 5 ∧ XX = oz) := by rw [Hid, HLO.out.1, HLO.out.2, HIN.out]; exact ⟨rfl, rfl⟩
   have HW : Hid ((((((((w2.setCell ⟨w.heap.size, 0, none⟩ (.int .i64 0)).setCell ⟨w.heap.size, 1, none⟩ (.int .i64 0)).setCell ⟨w.heap.size, 2, none⟩ (.int .i64 0)).setCell ⟨w.heap.size, 3, none⟩ (.string ⟨#[]⟩)).setCell ⟨w.heap.size, 4, none⟩ (.int .i64 0)).setCell ⟨w.heap.size, 5, none⟩ (.slice none 0 0))).heap[w.heap.size]? = some (.cells #[.int .i64 0, .int .i64 0, .int .i64 0, .string ⟨#[]⟩, .int .i64 0, .slice none 0 0] 33)) := put6_heap HR2.out
   have HC3 : Hid (Chg (fun _ => False) w (((((((w2.setCell ⟨w.heap.size, 0, none⟩ (.int .i64 0)).setCell ⟨w.heap.size, 1, none⟩ (.int .i64 0)).setCell ⟨w.heap.size, 2, none⟩ (.int .i64 0)).setCell ⟨w.heap.size, 3, none⟩ (.string ⟨#[]⟩)).setCell ⟨w.heap.size, 4, none⟩ (.int .i64 0)).setCell ⟨w.heap.size, 5, none⟩ (.slice none 0 0)))) := put6_chg (Chg.ofBelow HB2.out _) _ (Or.inr (Nat.le_refl _)) _ _ _ _ _ _
   clear hl hmn
   go_wp2_with fail
   (try simp only [Exit.inBlock, Exit.then])
   generalize hWq : ((((((w2.setCell ⟨w.heap.size, 0, none⟩ (.int .i64 0)).setCell ⟨w.heap.size, 1, none⟩ (.int .i64 0)).setCell ⟨w.heap.size, 2, none⟩ (.int .i64 0)).setCell ⟨w.heap.size, 3, none⟩ (.string ⟨#[]⟩)).setCell ⟨w.heap.size, 4, none⟩ (.int .i64 0)).setCell ⟨w.heap.size, 5, none⟩ (.slice none 0 0)) = W at HW HC3 ⊢
   clear hWq z0 z1 z2 z3 z4 z5 y0 y1 y2 y3 y4 y5
   refine bodyPost_ret (v := .tuple #[opZ, .iface 76 (.int .i64 5)]) ?_ rfl ?_
   ·simp [results]
    rw [show (asAddr (Value.pointer (some ⟨w.heap.size, 0, none⟩))).run Tryz.prog W = .ok ⟨w.heap.size, 0, none⟩ W from rfl]
    simp [If.load_op HW.out, Result.andThen]
    rfl
   ·rw [HEX.out.1, HEX.out.2]
    exact ⟨_, by rw [errV_ne (by decide)]; rfl, DtsAt.nil _, chg_none HC3.out⟩
  ·obtain ⟨j, rfl⟩ : ∃ j, l = j + 1 := ⟨l - 1, by omega⟩
   have hjl : j < L.length := by rw [HLL.out]; omega
   have hy := List.getElem?_eq_getElem hjl
   have hat := HRW.out.1.at hy
   have hdt := own_dts (HRW.out.2 _ (List.getElem_mem hjl))
   have HIN : Hid (lastIn who S.ops = some L[j].1) := by
    unfold Hid lastIn
    have hm : (S.ops.filter fun o => decide (o.1.1 = who)) = L.map (·.1) := HML.out.symm
    rw [hm, List.getLast?_eq_getElem?, List.length_map, HLL.out, Nat.add_sub_cancel, List.getElem?_map, hy]; rfl
   have HEX : Hid (EE = 0 ∧ XX = L[j].1) := by rw [Hid, HLO.out.1, HLO.out.2, HIN.out]; exact ⟨rfl, rfl⟩
   have HDT : Hid (DtsAt w2 L[j].2 L[j].1.2.2.2.2) := hdt
   obtain ⟨y, hye⟩ : ∃ y, L[j] = y := ⟨_, rfl⟩
   rw [hye] at hat hdt HEX HDT
   obtain ⟨⟨⟨xa, xb⟩, t, p, cc, ss⟩, vs⟩ := y
   obtain ⟨qs, kc, hvs, _⟩ := hdt
   dsimp only at hat HEX HDT hvs
   subst hvs
   generalize hsl : ss.length = sl at hat HDT
   have a0 := hat 0 _ rfl
   have a1 := hat 1 _ rfl
   have a2 := hat 2 _ rfl
   have a3 := hat 3 _ rfl
   have a4 := hat 4 _ rfl
   have a5 := hat 5 _ rfl
   rw [Nat.add_zero] at a0
   dsimp only at a0 a1 a2 a3 a4
   have hjz : (j : Int) + 1 - 1 = (j : Int) := by omega
   have hjw : IntKind.i64.wrap ((j : Int) + 1 - 1) = (j : Int) := by rw [hjz]; exact wrap_in (by omega) (by omega)
   have hjlt : (j : Int) < (j : Int) + 1 := by omega
   have hgn := HGN.out
   have hgn2 : w.heap.size ≠ g := fun e => HGN.out e.symm
   have hlne : (((j : Int) + 1) == 0) = false := by rw [beq_eq_false_iff_ne]; omega
   have HW : Hid ((((((((w2.setCell ⟨w.heap.size, 0, none⟩ (.int .i64 xa)).setCell ⟨w.heap.size, 1, none⟩ (.int .i64 xb)).setCell ⟨w.heap.size, 2, none⟩ (.int .i64 t)).setCell ⟨w.heap.size, 3, none⟩ (.string p)).setCell ⟨w.heap.size, 4, none⟩ (.int .i64 cc)).setCell ⟨w.heap.size, 5, none⟩ (.slice qs sl kc))).heap[w.heap.size]? = some (.cells #[.int .i64 xa, .int .i64 xb, .int .i64 t, .string p, .int .i64 cc, .slice qs sl kc] 33)) := put6_heap HR2.out
   have HC3 : Hid (Chg (fun _ => False) w (((((((w2.setCell ⟨w.heap.size, 0, none⟩ (.int .i64 xa)).setCell ⟨w.heap.size, 1, none⟩ (.int .i64 xb)).setCell ⟨w.heap.size, 2, none⟩ (.int .i64 t)).setCell ⟨w.heap.size, 3, none⟩ (.string p)).setCell ⟨w.heap.size, 4, none⟩ (.int .i64 cc)).setCell ⟨w.heap.size, 5, none⟩ (.slice qs sl kc)))) := put6_chg (Chg.ofBelow HB2.out _) _ (Or.inr (Nat.le_refl _)) _ _ _ _ _ _
   have HD3 : Hid (DtsAt (((((((w2.setCell ⟨w.heap.size, 0, none⟩ (.int .i64 xa)).setCell ⟨w.heap.size, 1, none⟩ (.int .i64 xb)).setCell ⟨w.heap.size, 2, none⟩ (.int .i64 t)).setCell ⟨w.heap.size, 3, none⟩ (.string p)).setCell ⟨w.heap.size, 4, none⟩ (.int .i64 cc)).setCell ⟨w.heap.size, 5, none⟩ (.slice qs sl kc))) (.slice qs sl kc) ss) := by
    have hyw := HRW.out.2 _ (List.getElem_mem hjl)
    rw [hye] at hyw
    dsimp only at hyw
    rw [hsl] at hyw
    refine own_dts (own_stay hyw fun q hq => put6_block _ _ _ _ _ _ _ _ _ ?_)
    have := (hyw.lt q hq).1
    have := HZ.out
    omega
   clear hl hat hy hye hsl
   go_wp2_with fail
   (try simp only [Exit.inBlock, Exit.then])
   generalize hWq : ((((((w2.setCell ⟨w.heap.size, 0, none⟩ (.int .i64 xa)).setCell ⟨w.heap.size, 1, none⟩ (.int .i64 xb)).setCell ⟨w.heap.size, 2, none⟩ (.int .i64 t)).setCell ⟨w.heap.size, 3, none⟩ (.string p)).setCell ⟨w.heap.size, 4, none⟩ (.int .i64 cc)).setCell ⟨w.heap.size, 5, none⟩ (.slice qs sl kc)) = W at HW HC3 HD3 ⊢
   clear hWq z0 z1 z2 z3 z4 z5 y0 y1 y2 y3 y4 y5 a0 a1 a2 a3 a4 a5
   refine bodyPost_ret (v := .tuple #[.agg #[.int .i64 xa, .int .i64 xb, .int .i64 t, .string p, .int .i64 cc, .slice qs sl kc], .nilIface]) ?_ rfl ?_
   ·simp [results]
    rw [show (asAddr (Value.pointer (some ⟨w.heap.size, 0, none⟩))).run Tryz.prog W = .ok ⟨w.heap.size, 0, none⟩ W from rfl]
    simp [If.load_op HW.out, Result.andThen]
   ·rw [HEX.out.1, HEX.out.2]
    exact ⟨_, by rw [errV_zero], HD3.out, chg_none HC3.out⟩
end Bt
end Go.Proofs.YtnbnniapllkjlaaGreatDoor
