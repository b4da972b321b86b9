
import Derived.Test.YtnbnniapllkjlaaGreatDoorBt
import Derived.Test.YtnbnniapllkjlaaGreatDoorBe
import Derived.Test.YtnbnniapllkjlaaGreatDoorXs
import Derived.Test.YtnbnniapllkjlaaGreatDoorK3
import Derived.Test.YtnbnniapllkjlaaGreatDoorA0
import Derived.Test.YtnbnniapllkjlaaGreatDoorJ14
namespace Go.Proofs.YtnbnniapllkjlaaGreatDoor
namespace Bu
set_option linter.unusedVariables false
set_option linter.unusedSimpArgs false
open Go.ChangeShapes Go.WideShapes Go.ChangeAt Go.RowKit Cm Ka Kb Na Om Oa Oz Oc Og Oi Hm Ia Ic Ie Ik Im Il Um Ba Bf Bj Bl Bt Ac Xp Utp
open La (bel bel_drew errV_zero errV_ne own_below)
open Iq (run run_next run_inv off_old)
open Kt (ET)
theorem ap_len {S : Dq} (I : Inv S) (o : Ox) : (apS S o).book.length ≤ S.book.length + 1 ∧ (apS S o).ops.length ≤ S.ops.length + 1 := by
 unfold apS
 cases hn : isNew S o with
 | false => simp
 | true =>
  obtain ⟨_, _, _, hd⟩ := isNew_iff.1 hn
  obtain ⟨_, _, hr⟩ := Bm.bookE_zero.1 I.book
  rw [if_pos rfl]
  refine ⟨?_, by unfold next; simp⟩
  show (doB S o).length ≤ _
  have put (p : ByteArray) (x : Bm.Leaf) : (Bm.putL S.book p x).length ≤ S.book.length + 1 := by rw [Bm.put_length hr]; split <;> omega
  unfold doE at hd
  unfold doB
  by_cases h1 : o.2.1 = 1
  ·rw [if_pos h1] at hd ⊢; rw [(Bm.write_book hd).2]; exact put _ _
  ·rw [if_neg h1] at hd ⊢
   by_cases h2 : o.2.1 = 2
   ·rw [if_pos h2] at hd ⊢; rw [(Bm.strike_book hd).2]; exact put _ _
   ·rw [if_neg h2]; omega
theorem run_len (l : List Ox) : ∀ k, k ≤ l.length → (run l k).book.length ≤ k ∧ (run l k).ops.length ≤ k
 | 0, _ => ⟨Nat.le_refl _, Nat.le_refl _⟩
 | k + 1, h => by
  obtain ⟨i1, i2⟩ := run_len l k (by omega)
  rw [run_next (by omega)]
  obtain ⟨a1, a2⟩ := ap_len (Iq.run_inv l k) (l.getD k oz)
  exact ⟨by omega, by omega⟩
def Old (w : World) (g : Nat) : Prop := g < w.heap.size
theorem in_old {w : World} {v : Value} {l : List Dt} (h : DtsAt w v l) : In (Old w) v := fun a n c e hn => by
 obtain ⟨q, c2, hv, hin, _⟩ := h
 rw [e] at hv
 injection hv with e1 e2 e3
 rcases hin with e0 | ⟨bb, oo, hp9, hcs⟩
 ·rw [e0] at e2; simp at e2; omega
 ·rw [hp9] at e1
  injection e1 with e1
  show a.block < w.heap.size
  rw [e1]
  exact (hcs 0 (by omega)).lt
def noE (x : Option Ox) : Int := if x = none then 5 else 0
structure Want (wr W : World) (Q : Nat) (x : Ox) (v : Value) : Prop where
 blk : W.heap[Q]? = some (.cells #[.int .i64 x.1.1, .int .i64 x.1.2, .int .i64 x.2.1, .string x.2.2.1, .int .i64 x.2.2.2.1, v] 33)
 dts : DtsAt wr v x.2.2.2.2
theorem Want.below {wr W W' : World} {Q : Nat} {x : Ox} {v : Value} (h : Want wr W Q x v) (hb : Below W.heap.size W W') : Want wr W' Q x v :=
 ⟨by rw [hb.block Q (Array.getElem?_eq_some_iff.1 h.blk).1]; exact h.blk, h.dts⟩
theorem un_len_le {S : Dq} {who : Int} : ∀ (l : List Ox) (k : Nat) (B : List Bm.Leaf) (L : List Ox), (unP S who l k B L).2.1.length ≤ L.length + l.length
 | [], k, B, L => by simp [unP]
 | o :: r, 0, B, L => by rw [unP_none]; exact Nat.le_add_right _ _
 | o :: r, k + 1, B, L => by
  rw [List.length_cons]
  rcases kind_le S o B with hk | hk | hk
  ·rw [unP_skip hk]; have := un_len_le (S := S) (who := who) r (k + 1) B L; omega
  ·rw [unP_st hk]; have := un_len_le (S := S) (who := who) r k (stB o B) (L ++ [stO S who o L]); rw [List.length_append, List.length_singleton] at this; omega
  ·rw [unP_wr hk]
   split
   ·simp
   ·have := un_len_le (S := S) (who := who) r k (wrB who o B) (L ++ [wrO S who o B L]); rw [List.length_append, List.length_singleton] at this; omega
theorem un_seen_nil {S : Dq} {who : Int} : ∀ (l : List Ox) (k : Nat) (B : List Bm.Leaf) (L : List Ox), (∀ x ∈ L, x.2.2.2.2 = []) → ∀ x ∈ (unP S who l k B L).2.1, x.2.2.2.2 = []
 | [], k, B, L, h => h
 | o :: r, 0, B, L, h => by rw [unP_none]; exact h
 | o :: r, k + 1, B, L, h => by
  have add : ∀ z : Ox, z.2.2.2.2 = [] → ∀ x ∈ L ++ [z], x.2.2.2.2 = [] := fun z hz x hx => by
   rcases List.mem_append.1 hx with hx | hx
   ·exact h x hx
   ·rw [List.mem_singleton.1 hx]; exact hz
  rcases kind_le S o B with hk | hk | hk
  ·rw [unP_skip hk]; exact un_seen_nil r (k + 1) B L h
  ·rw [unP_st hk]; exact un_seen_nil r k _ _ (add _ rfl)
  ·rw [unP_wr hk]
   split
   ·intro x hx; cases hx
   ·exact un_seen_nil r k _ _ (add _ rfl)
theorem un_len {S : Dq} (I : Inv S) (h : S.ops.length ≤ 60) (who n : Int) : (unL S who n).length ≤ 1048576 := by
 have h1 := un_len_le (S := S) (who := who) (mine S who).reverse n.toNat S.book []
 have h2 : (mine S who).length ≤ S.ops.length := List.length_filter_le _ _
 unfold unL
 rw [List.length_reverse] at h1
 simp only [List.length_nil] at h1
 omega
theorem un_seen (S : Dq) (who n : Int) : ∀ x ∈ unL S who n, x.2.2.2.2.length ≤ 1048576 := fun x hx => by
 rw [un_seen_nil _ _ _ _ (fun y hy => by cases hy) x hx]; decide
theorem last_small {S : Dq} (I : Inv S) {who : Int} {x : Ox} (h : x = lastO S who) : x.2.2.2.2.length ≤ 1048576 := by
 have key : ∀ y, lastIn who S.ops = some y → y.2.2.2.2.length ≤ 1048576 := fun y hy => by
  unfold lastIn at hy
  have hm := List.mem_of_getLast? hy
  have hm2 := (List.mem_filter.1 hm).1
  exact Nat.le_trans (lawOf_zero.1 (opE_zero.1 (I.right y hm2)).2.2.2).2.2.2.1 (by decide)
 rw [h]; unfold lastO
 split
 ·decide
 ·cases e : lastIn who S.ops with
  | none => decide
  | some y => exact key y e
set_option maxRecDepth 100000 in
set_option maxHeartbeats 8000000 in
theorem walk (vl : Value) (l : List Ox) (who nn : Int) (w : World) (hl : OpsAt w vl l) (hsz : ∀ x ∈ l, x.2.2.1.size ≤ maxLen) (hg : ET w) :
  Calls Tryz.prog 3 #[vl, .int .i64 who, .int .i64 nn] w fun e w' => e = .returned (.bool true) ∧ Below w.heap.size w w' := by
 obtain ⟨ql, cl, rfl, hlin, _⟩ := hl
 obtain ⟨n, hn⟩ : ∃ n, n = l.length := ⟨_, rfl⟩
 rw [← hn]
 have HN : Hid (l.length = n) := hn.symm
 have HLI : Hid (OpsIn w ql l) := hlin
 have HSZ : Hid (∀ x ∈ l, x.2.2.1.size ≤ maxLen) := hsz
 have HG : Hid (ET w) := hg
 clear hlin hsz hn hg
 go_enter Tryz.func3, Tryz.ntmps3
 go_wp2_with fail
 refine (new_any w).mono ?_
 rintro e w1 ⟨D, F1, rfl, hd1, hf1, hb1⟩
 have HD1 : Hid (DocAt w1 D (run l 0) F1) := hd1
 have HF1 : Hid (∀ g, F1 g → w.heap.size ≤ g) := hf1
 have HB1 : Hid (Below w.heap.size w w1) := hb1
 clear hd1 hf1 hb1
 go_wp2_with fail
 refine (Xq.new_ref (Old w) w1 (fun g hg => Nat.lt_of_lt_of_le hg HB1.out.size)).mono ?_
 rintro e w2 ⟨E, F2, rfl, hd2, hf2, hb2⟩
 have HE2 : Hid (RefAt (Old w) w2 E (run l 0) F2) := hd2
 have HD2 : Hid (DocAt w2 D (run l 0) F1) := HD1.out.below hb2
 have HX2 : Hid (∀ g, F2 g → ¬ F1 g) := fun g h2 h1 => by have := hf2 g h2; have := HD1.out.lt g h1; omega
 have HB2 : Hid (Below w.heap.size w w2) := bel HB1.out hb2
 clear hd2 hf2 hb2 HD1 HB1
 go_wp2_with fail
 go_loopw [9, 10, 11, 12, 13, 14] (fun vi _ _ _ _ _ wr => ∃ (k : Nat) (Fd Fr : Nat → Prop), k ≤ n ∧ k ≤ 60 ∧ vi = .int .i64 k ∧ Hid (DocAt wr D (run l k) Fd) ∧ Hid (RefAt (Old w) wr E (run l k) Fr) ∧ Hid (∀ g, Fd g → w.heap.size ≤ g) ∧ Hid (∀ g, Fr g → ¬ Fd g) ∧ Hid (Below w.heap.size w wr)) (fun vi _ _ _ _ _ _ => 60 - (intOf vi).toNat)
 case atStart => exact ⟨0, F1, F2, by omega, by omega, rfl, HD2, HE2, HF1, HX2, HB2⟩
 case round =>
  clear HD2 HE2 HF1 HX2 HB2
  obtain ⟨k, Fd, Fr, hk, hk60, rfl, HDk, HEk, HFk, HXk, HBk⟩ := hrel
  by_cases hlt : k < n ∧ k < 60
  ·obtain ⟨hlt1, hlt2⟩ := hlt
   have hltz : (k : Int) < n := by omega
   ·have hltz2 : (k : Int) < 60 := by omega
    have hkl : k < l.length := by rw [HN.out]; exact hlt1
    obtain ⟨bo, oo, rfl, hc⟩ := HLI.out.some (by intro e; rw [e] at hkl; simp at hkl)
    have ha0 := hc k hkl
    have hxm := HSZ.out _ (getO_mem hkl)
    have HRN : Hid (run l (k + 1) = apS (run l k) (l.getD k oz)) := run_next hkl
    obtain ⟨x, hx⟩ : ∃ x, x = l.getD k oz := ⟨_, rfl⟩
    rw [← hx] at ha0 hxm HRN
    obtain ⟨⟨xa, xb⟩, xt, xp, xc, xs⟩ := x
    obtain ⟨vx, ⟨g0, g1, g2, g3, g4, g5⟩, hdx0⟩ := ha0
    simp only at g0 g1 g2 g3 g4 g5 hdx0 hxm
    obtain ⟨pv, nv, cv, rfl⟩ : ∃ pv nv cv, vx = .slice pv nv cv := by obtain ⟨_, _, e9, _⟩ := hdx0; exact ⟨_, _, _, e9⟩
    have HSX : Hid (∀ W, Below w.heap.size w W → W.cell? ⟨bo, oo + k * 6, none⟩ = some (.int .i64 xa) ∧ W.cell? ⟨bo, oo + k * 6 + 1, none⟩ = some (.int .i64 xb) ∧ W.cell? ⟨bo, oo + k * 6 + 2, none⟩ = some (.int .i64 xt) ∧ W.cell? ⟨bo, oo + k * 6 + 3, none⟩ = some (.string xp) ∧ W.cell? ⟨bo, oo + k * 6 + 4, none⟩ = some (.int .i64 xc) ∧ W.cell? ⟨bo, oo + k * 6 + 5, none⟩ = some (.slice pv nv cv)) := fun W hb => ⟨keep_cell hb g0, keep_cell hb g1, keep_cell hb g2, keep_cell hb g3, keep_cell hb g4, keep_cell hb g5⟩
    have HDX : Hid (DtsAt w (.slice pv nv cv) xs ∧ xp.size ≤ maxLen) := ⟨hdx0, hxm⟩
    have CR := Xs.apply_ref (Old w) E (run l k) Fr xa xb xt xp xc (.slice pv nv cv) xs wr HEk.out (hdx0.below HBk.out) (in_old hdx0) hxm
    obtain ⟨a0, a1, a2, a3, a4, a5⟩ := HSX.out wr HBk.out
    clear hc hx hkl hxm hdx0 g0 g1 g2 g3 g4 g5
    go_wp2_with fail
    refine CR.mono ?_
    rintro e w3 ⟨he, F3, hd3, hc3, hf3⟩
    have HFR : Hid (∀ g, Fr g → w.heap.size ≤ g) := fun g hg => Nat.le_of_not_lt (HEk.out.lt g hg).1
    have HE3 : Hid (RefAt (Old w) w3 E (run l (k + 1)) F3) := by unfold Hid; rw [HRN.out]; exact hd3
    have HB3 : Hid (Below w.heap.size w w3) := hc3.below HFR.out HBk.out HBk.out.size
    have HD3 : Hid (DocAt w3 D (run l k) Fd) := HDk.out.chg hc3 (fun g h1 h2 => HXk.out g h2 h1)
    have HX3 : Hid (∀ g, F3 g → ¬ Fd g) := fun g h1 h2 => by
     rcases hf3 g h1 with e9 | e9
     ·exact HXk.out g e9 h2
     ·have := HDk.out.lt g h2; omega
    obtain ⟨nw, hnw⟩ : ∃ nw, nw = isNew (run l k) ((xa, xb), xt, xp, xc, xs) := ⟨_, rfl⟩
    obtain ⟨q, hq⟩ : ∃ q, q = apE (run l k) ((xa, xb), xt, xp, xc, xs) := ⟨_, rfl⟩
    have HNW : Hid (nw = isNew (run l k) ((xa, xb), xt, xp, xc, xs)) := hnw
    have HQ : Hid (q = apE (run l k) ((xa, xb), xt, xp, xc, xs)) := hq
    rw [← hnw, ← hq] at he
    subst he
    have CD := apply_any D (run l k) Fd xa xb xt xp xc (.slice pv nv cv) xs w3 HD3.out (HDX.out.1.below HB3.out) (off_old HDX.out.1 HFk.out) HDX.out.2
    clear hd3 hc3 hf3 CR a0 a1 a2 a3 a4 a5 hnw hq
    obtain ⟨a0, a1, a2, a3, a4, a5⟩ := HSX.out w3 HB3.out
    go_wp2_with fail
    refine CD.mono ?_
    rintro e w4 ⟨he, _, F4, hd4, hc4, hf4⟩
    rw [← HNW.out, ← HQ.out] at he
    subst he
    have HD4 : Hid (DocAt w4 D (run l (k + 1)) F4) := by unfold Hid; rw [HRN.out]; exact hd4
    have HB4 : Hid (Below w.heap.size w w4) := hc4.below HFk.out HB3.out HB3.out.size
    have HF4 : Hid (∀ g, F4 g → w.heap.size ≤ g) := fun g hg => by
     rcases hf4 g hg with e9 | e9
     ·exact HFk.out g e9
     ·exact Nat.le_trans HB3.out.size e9
    have HE4 : Hid (RefAt (Old w) w4 E (run l (k + 1)) F3) := HE3.out.chg hc4 (fun g hg => Nat.not_lt_of_le (HFk.out g hg)) HX3.out
    have HX4 : Hid (∀ g, F3 g → ¬ F4 g) := fun g h1 h2 => by
     rcases hf4 g h2 with e9 | e9
     ·exact HX3.out g h1 e9
     ·have := (HE3.out.lt g h1).2; omega
    have CE := Kl.same_any q q w4 (Kl.ET.below HG.out HB4.out)
    rw [show (q == q) = true by simp] at CE
    clear hd4 hc4 hf4 CD a0 a1 a2 a3 a4 a5
    go_wp2_with fail
    refine CE.mono ?_
    rintro e w5 ⟨rfl, hb5⟩
    have HD5 : Hid (DocAt w5 D (run l (k + 1)) F4) := HD4.out.below hb5
    have HE5 : Hid (RefAt (Old w) w5 E (run l (k + 1)) F3) := HE4.out.below hb5
    have HB5 : Hid (Below w.heap.size w w5) := bel HB4.out hb5
    clear CE hb5
    go_wp2_with fail
    go_roundw
    case rel => exact ⟨k + 1, F4, F3, by omega, by omega, by go_num, HD5, HE5, HF4, HX4, HB5⟩
    case measure => simp [intOf]; omega
  ·rename World => wz
   obtain ⟨S, hS⟩ : ∃ S, S = run l k := ⟨_, rfl⟩
   have HLN : Hid (S.book.length ≤ 60 ∧ S.ops.length ≤ 60) := by
    have := run_len l k (by rw [HN.out]; exact hk)
    unfold Hid; rw [hS]; omega
   rw [← hS] at HDk HEk
   have HI : Hid (Inv S) := HDk.out.inv
   have ht : ¬ (k : Int) < n ∨ ((k : Int) < n ∧ ¬ (k : Int) < 60) := by omega
   obtain ⟨pb, nb, cb, pm, nm, cm, gk, po, no, co, hps⟩ := Xt.RefAt.parts HEk.out
   have HP : Hid (Xt.Parts wz E S pb nb cb pm nm cm gk po no co) := hps
   have hno : no = S.ops.length := by obtain ⟨p9, c9, e9, _⟩ := hps.ops wz (Below.refl _ _); injection e9
   have HNO : Hid (S.ops.length = no) := hno.symm
   have hno6 : no ≤ 60 := by rw [hno]; exact HLN.out.2
   obtain ⟨Q, hQ⟩ : ∃ Q, wz.heap.size = Q := ⟨_, rfl⟩
   have HBA : Hid (Below wz.heap.size wz (wz.alloc (.cells #[.int .i64 0, .int .i64 0, .int .i64 0, .string ⟨#[]⟩, .int .i64 0, .slice none 0 0] 33))) := (Below.refl _ _).alloc (Nat.le_refl _) _
   have HWA : Hid (Want wz (wz.alloc (.cells #[.int .i64 0, .int .i64 0, .int .i64 0, .string ⟨#[]⟩, .int .i64 0, .slice none 0 0] 33)) Q oz (.slice none 0 0)) := ⟨by rw [← hQ]; exact heap_alloc_new wz _, DtsAt.nil _⟩
   have HQE : Hid (wz.heap.size = Q) := hQ
   have d3 := HP.out.c3 _ HBA.out
   have FIN : Hid (∀ (W : World) (x : Ox) (v : Value) (ee : Int), Below wz.heap.size wz W → Want wz W Q x v → ee = lastE S who → x = lastO S who → ∃ v', v' = v ∧ True) := fun W x v ee _ _ _ _ => ⟨v, rfl, trivial⟩
   clear hS HSZ HLI hlt hps hno FIN
   by_cases hw : 1 ≤ who ∧ who ≤ 8
   ·obtain ⟨h1, h8⟩ := hw
    have HWH : Hid (Pm.isWho who = true) := by unfold Hid Pm.isWho; simp [h1, h8]
    rcases ht with t1 | ⟨t1, t2⟩
    all_goals
     go_wp2_with fail
     (try rw [HQE.out])
     generalize hwq : wz.alloc _ = wq
     rw [hwq] at HBA HWA
     clear hwq d3
     go_loopw [15, 17] (fun ve vi W => ∃ (i : Nat) (x : Ox) (v : Value), i ≤ no ∧ vi = .int .i64 i ∧ ve = .int .i64 (noE (lastIn who (S.ops.take i))) ∧ Hid (x = (lastIn who (S.ops.take i)).getD oz) ∧ Hid (Want wz W Q x v) ∧ Hid (Below wz.heap.size wz W)) (fun _ vi _ => no - (intOf vi).toNat)
     case atStart => exact ⟨0, oz, _, by omega, rfl, rfl, rfl, HWA, HBA⟩
     case round =>
      clear HWA HBA
      obtain ⟨i, x, v, hi, rfl, rfl, HXO, HW, HB⟩ := hrel
      have e3 := HP.out.c3 wr HB.out
      by_cases hin : i < no
      ·have hinz : (i : Int) < no := by omega
       have hil : i < S.ops.length := by rw [HNO.out]; exact hin
       have HLN2 : Hid (lastIn who (S.ops.take (i + 1)) = if (S.ops.getD i oz).1.1 = who then some (S.ops.getD i oz) else lastIn who (S.ops.take i)) := last_next hil
       obtain ⟨pq, cq, eq, hkq, _⟩ := HP.out.ops wz (Below.refl _ _)
       injection eq with eq1 eq2 eq3
       subst eq1 eq3
       obtain ⟨ob, oo, rfl, hcq⟩ := hkq.some (by intro e; rw [e] at hil; simp at hil)
       obtain ⟨vs, ⟨g0, g1, g2, g3, g4, g5⟩, hdt⟩ := hcq i hil
       obtain ⟨y, hy⟩ : ∃ y, S.ops.getD i oz = y := ⟨_, rfl⟩
       rw [hy] at g0 g1 g2 g3 g4 hdt HLN2
       obtain ⟨⟨ya, yb⟩, yt, yp, yc, ys⟩ := y
       dsimp only at g0 g1 g2 g3 g4 hdt HLN2
       have HDT : Hid (DtsAt wz vs ys) := hdt
       obtain ⟨ps, cs, hvs, _⟩ := hdt
       generalize ys.length = ns at hvs
       subst hvs
       have a0 := keep_cell HB.out g0
       have a1 := keep_cell HB.out g1
       have a2 := keep_cell HB.out g2
       have a3 := keep_cell HB.out g3
       have a4 := keep_cell HB.out g4
       have a5 := keep_cell HB.out g5
       have hoq : ob ≠ Q := by
        have := World.block_lt_of_cell? _ _ g0
        have h9 : ob < wz.heap.size := this
        have := HQE.out
        omega
       clear hy hcq hkq g0 g1 g2 g3 g4 g5 eq2
       by_cases hyw : ya = who
       ·have hyw2 : who = ya := hyw.symm
        subst hyw2
        have hyb : (who == who) = true := by simp
        have HLS : Hid (lastIn who (S.ops.take (i + 1)) = some ((who, yb), yt, yp, yc, ys)) := by rw [Hid, HLN2.out, if_pos hyw]
        have z0 := blk_cell HW.out.blk (i := 0) (u := .int .i64 x.1.1) rfl
        have z1 := blk_cell HW.out.blk (i := 1) (u := .int .i64 x.1.2) rfl
        have z2 := blk_cell HW.out.blk (i := 2) (u := .int .i64 x.2.1) rfl
        have z3 := blk_cell HW.out.blk (i := 3) (u := .string x.2.2.1) rfl
        have z4 := blk_cell HW.out.blk (i := 4) (u := .int .i64 x.2.2.2.1) rfl
        have z5 := blk_cell HW.out.blk (i := 5) (u := v) rfl
        have f0 := blk_free HW.out.blk (i := 0)
        have f1 := blk_free HW.out.blk (i := 1)
        have f2 := blk_free HW.out.blk (i := 2)
        have f3 := blk_free HW.out.blk (i := 3)
        have f4 := blk_free HW.out.blk (i := 4)
        have f5 := blk_free HW.out.blk (i := 5)
        have HW2 : Hid (Want wz ((((((wr.setCell ⟨Q, 0, none⟩ (.int .i64 who)).setCell ⟨Q, 1, none⟩ (.int .i64 yb)).setCell ⟨Q, 2, none⟩ (.int .i64 yt)).setCell ⟨Q, 3, none⟩ (.string yp)).setCell ⟨Q, 4, none⟩ (.int .i64 yc)).setCell ⟨Q, 5, none⟩ (.slice ps ns cs)) Q ((who, yb), yt, yp, yc, ys) (.slice ps ns cs)) := ⟨put6_heap HW.out.blk, HDT.out⟩
        have HB2 : Hid (Below wz.heap.size wz ((((((wr.setCell ⟨Q, 0, none⟩ (.int .i64 who)).setCell ⟨Q, 1, none⟩ (.int .i64 yb)).setCell ⟨Q, 2, none⟩ (.int .i64 yt)).setCell ⟨Q, 3, none⟩ (.string yp)).setCell ⟨Q, 4, none⟩ (.int .i64 yc)).setCell ⟨Q, 5, none⟩ (.slice ps ns cs))) := Bk.chg_none (put6_chg (Chg.ofBelow HB.out _) _ (Or.inr (by rw [HQE.out]; exact Nat.le_refl _)) _ _ _ _ _ _)
        have HNE : Hid (noE (lastIn who (S.ops.take (i + 1))) = 0) := by rw [Hid, HLS.out]; rfl
        have HXN : Hid (((who, yb), yt, yp, yc, ys) = (lastIn who (S.ops.take (i + 1))).getD oz) := by rw [Hid, HLS.out]; rfl
        generalize x.1.1 = q0 at z0
        generalize x.1.2 = q1 at z1
        generalize x.2.1 = q2 at z2
        generalize x.2.2.1 = q3 at z3
        generalize x.2.2.2.1 = q4 at z4
        clear HW HB HXO HLN2 HLS HDT
        go_wp2_with fail
        go_roundw
        case rel => exact ⟨i + 1, _, _, by omega, by go_num, by rw [HNE.out], HXN, HW2, HB2⟩
        case measure => simp [intOf]; omega
       ·have hyb : (ya == who) = false := by simpa using hyw
        have HLS : Hid (lastIn who (S.ops.take (i + 1)) = lastIn who (S.ops.take i)) := by rw [Hid, HLN2.out, if_neg hyw]
        clear HLN2 HDT
        go_wp2_with fail
        go_roundw
        case rel => exact ⟨i + 1, x, v, by omega, by go_num, by rw [HLS.out], by rw [Hid, HLS.out]; exact HXO.out, HW, HB⟩
        case measure => simp [intOf]; omega
      ·have hinz : ¬ (i : Int) < no := by omega
       have HTK : Hid (S.ops.take i = S.ops) := List.take_of_length_le (by rw [HNO.out]; omega)
       have HEE : Hid (noE (lastIn who (S.ops.take i)) = lastE S who) := by rw [Hid, HTK.out]; unfold lastE noE; rw [if_neg (show ¬ Pm.isWho who = false by rw [HWH.out]; simp)]
       have HXX : Hid (x = lastO S who) := by unfold Hid lastO; rw [HXO.out, HTK.out, if_neg (by rw [HWH.out]; simp)]
       rw [HEE.out]
       clear HXO HTK HEE
       go_wp2_with fail
       have CL := last_any D S Fd who wr (HDk.out.below HB.out)
       obtain ⟨EL, hEL⟩ : ∃ EL, lastE S who = EL := ⟨_, rfl⟩
       rw [hEL] at CL ⊢
       rw [← HXX.out] at CL
       have HXX2 := HXX
       clear hEL HXX
       refine CL.mono ?_
       rintro e w3 ⟨v3, rfl, hd3, hb3⟩
       have HB3 : Hid (Below wz.heap.size wz w3) := bel HB.out hb3
       have HW3 : Hid (Want wz w3 Q x v) := HW.out.below hb3
       have HD3 : Hid (DtsAt w3 v3 x.2.2.2.2) := hd3
       obtain ⟨p3, c3, hv3, _⟩ := hd3
       obtain ⟨pv, cv, hvv, _⟩ := HW.out.dts
       obtain ⟨⟨xa, xb⟩, xt, xp, xc, xs⟩ := x
       dsimp only at hv3 hvv HD3
       generalize hn3 : xs.length = n3 at hv3 hvv
       subst hv3 hvv
       have HXS : Hid (xs.length ≤ 1048576) := last_small HI.out HXX2.out
       clear CL hb3 HW HB hn3 HXX2
       have HBO : Hid (Below w3.heap.size w3 (w3.alloc (.cells #[.int .i64 xa, .int .i64 xb, .int .i64 xt, .string xp, .int .i64 xc, .slice p3 n3 c3] 33))) := (Below.refl _ _).alloc (Nat.le_refl _) _
       have HO4 : Hid ((w3.alloc (.cells #[.int .i64 xa, .int .i64 xb, .int .i64 xt, .string xp, .int .i64 xc, .slice p3 n3 c3] 33)).heap[w3.heap.size]? = some (.cells #[.int .i64 xa, .int .i64 xb, .int .i64 xt, .string xp, .int .i64 xc, .slice p3 n3 c3] 33)) := heap_alloc_new w3 _
       go_wp2_with fail
       generalize hw4 : w3.alloc _ = w4
       rw [hw4] at HBO HO4
       have HB4 : Hid (Below wz.heap.size wz w4) := bel HB3.out HBO.out
       have HW4 : Hid (Want wz w4 Q ((xa, xb), xt, xp, xc, xs) (.slice pv n3 cv)) := HW3.out.below HBO.out
       have HD4 : Hid (DtsAt w4 (.slice p3 n3 c3) xs) := HD3.out.below HBO.out
       generalize w3.heap.size = O4 at HO4 ⊢
       clear hw4 HB3 HW3 HD3 HBO
       refine (Kl.same_any EL EL w4 (Kl.ET.below HG.out (bel HBk.out HB4.out))).mono ?_
       rintro e w5 ⟨he, hb5⟩
       rw [show (EL == EL) = true by simp] at he
       subst he
       have HB5 : Hid (Below wz.heap.size wz w5) := bel HB4.out hb5
       have HW5 : Hid (Want wz w5 Q ((xa, xb), xt, xp, xc, xs) (.slice pv n3 cv)) := HW4.out.below hb5
       have HD5 : Hid (DtsAt w5 (.slice p3 n3 c3) xs) := HD4.out.below hb5
       have HO5 : Hid (w5.heap[O4]? = some (.cells #[.int .i64 xa, .int .i64 xb, .int .i64 xt, .string xp, .int .i64 xc, .slice p3 n3 c3] 33)) := by rw [Hid, hb5.block _ (Array.getElem?_eq_some_iff.1 HO4.out).1]; exact HO4.out
       clear hb5 HB4 HW4 HD4 HO4
       have s0 := blk_cell HO5.out (i := 0) (u := .int .i64 xa) rfl
       have s1 := blk_cell HO5.out (i := 1) (u := .int .i64 xb) rfl
       have s2 := blk_cell HO5.out (i := 2) (u := .int .i64 xt) rfl
       have s3 := blk_cell HO5.out (i := 3) (u := .string xp) rfl
       have s4 := blk_cell HO5.out (i := 4) (u := .int .i64 xc) rfl
       have s5 := blk_cell HO5.out (i := 5) (u := .slice p3 n3 c3) rfl
       have r0 := blk_cell HW5.out.blk (i := 0) (u := .int .i64 xa) rfl
       have r1 := blk_cell HW5.out.blk (i := 1) (u := .int .i64 xb) rfl
       have r2 := blk_cell HW5.out.blk (i := 2) (u := .int .i64 xt) rfl
       have r3 := blk_cell HW5.out.blk (i := 3) (u := .string xp) rfl
       have r4 := blk_cell HW5.out.blk (i := 4) (u := .int .i64 xc) rfl
       have r5 := blk_cell HW5.out.blk (i := 5) (u := .slice pv n3 cv) rfl
       go_wp2_with fail
       refine (Ol.same_op xa xb xt xp xc (.slice p3 n3 c3) xs xa xb xt xp xc (.slice pv n3 cv) xs w5 HD5.out (HW5.out.dts.below HB5.out) HXS.out).mono ?_
       rintro e w6 ⟨he, hb6⟩
       rw [show decide ((((xa, xb), xt, xp, xc, xs) : Ox) = ((xa, xb), xt, xp, xc, xs)) = true by simp] at he
       subst he
       have HB6 : Hid (Below wz.heap.size wz w6) := bel HB5.out hb6
       clear hb6 s0 s1 s2 s3 s4 s5 r0 r1 r2 r3 r4 r5 HB5 HW5 HD5 HO5 HXS
       obtain ⟨m1, m2, m3⟩ := back_same HI.out who nn (by have := HLN.out; omega)
       have CR := Be.rundo_any (Old w) E S Fr who nn w6 (HEk.out.below HB6.out)
       obtain ⟨EU, hEU⟩ : ∃ EU, undE S who nn = EU := ⟨_, rfl⟩
       rw [hEU] at CR m1 m3
       have HME : Hid (unE S who nn = EU) := m1
       have HML : Hid (EU = 0 → unL S who nn = undL S who nn) := fun e => m2 (m1.trans e)
       clear m1 m2 m3 hEU
       go_wp2_with fail
       refine CR.mono ?_
       rintro e w7 ⟨v7, rfl, ho7, hn7, hb7⟩
       have HB7 : Hid (Below wz.heap.size wz w7) := bel HB6.out hb7
       have HO7 : Hid (EU = 0 → OpsAt w7 v7 (undL S who nn)) := fun e => (ho7 e).at
       have HN7 : Hid (EU ≠ 0 → v7 = .slice none 0 0) := hn7
       obtain ⟨p7, n7, c7, rfl⟩ : ∃ p n c, v7 = .slice p n c := by
        by_cases e : EU = 0
        ·obtain ⟨p, c, e9, _⟩ := ho7 e; exact ⟨_, _, _, e9⟩
        ·exact ⟨_, _, _, hn7 e⟩
       have CU := undo_any D S Fd who nn w7 (HDk.out.below HB7.out)
       rw [HME.out] at CU
       clear CR ho7 hn7 hb7 HB6
       go_wp2_with fail
       refine CU.mono ?_
       rintro e w8 ⟨v8, rfl, ho8, hn8, hb8⟩
       have HB8 : Hid (Below wz.heap.size wz w8) := bel HB7.out hb8
       obtain ⟨p8, n8, c8, rfl⟩ : ∃ p n c, v8 = .slice p n c := by
        by_cases e : EU = 0
        ·obtain ⟨p, c, e9, _⟩ := ho8 e; exact ⟨_, _, _, e9⟩
        ·exact ⟨_, _, _, hn8 e⟩
       have HSO : Hid (∀ W, Below w8.heap.size w8 W → Calls Tryz.prog 14 #[.slice p8 n8 c8, .slice p7 n7 c7] W fun e w' => e = .returned (.bool true) ∧ Below W.heap.size W w') := fun W hb => by
        by_cases e : EU = 0
        ·have h1 := (ho8 e).at.below hb
         have h2 := ((HO7.out e).below hb8).below hb
         rw [← HML.out e] at h2
         exact (Ol.same_ops _ _ _ _ W h1 h2 (un_len HI.out HLN.out.2 who nn) (un_seen S who nn)).mono fun e w' ⟨q1, q2⟩ => ⟨by rw [q1]; simp, q2⟩
        ·have e7 := HN7.out e
         rw [hn8 e, e7]
         exact (Ol.same_ops _ _ [] [] W ⟨none, 0, rfl, Or.inl rfl, Nat.le_refl _, by unfold maxLen; omega, fun _ => rfl⟩ ⟨none, 0, rfl, Or.inl rfl, Nat.le_refl _, by unfold maxLen; omega, fun _ => rfl⟩ (by simp) (fun x hx => by cases hx)).mono fun e w' ⟨q1, q2⟩ => ⟨by rw [q1]; simp, q2⟩
       clear CU ho8 hn8 hb8 HB7 HO7 HN7
       go_wp2_with fail
       refine (Kl.same_any EU EU w8 (Kl.ET.below HG.out (bel HBk.out HB8.out))).mono ?_
       rintro e w9 ⟨he, hb9⟩
       rw [show (EU == EU) = true by simp] at he
       subst he
       have HB9 : Hid (Below wz.heap.size wz w9) := bel HB8.out hb9
       have CS := HSO.out w9 hb9
       clear hb9 HSO HB8
       go_wp2_with fail
       refine CS.mono ?_
       rintro e w10 ⟨rfl, hb10⟩
       have HB10 : Hid (Below wz.heap.size wz w10) := bel HB9.out hb10
       clear hb10 CS
       go_wp2_with fail
       go_ret
       exact ⟨rfl, bel HBk.out HB10.out⟩
   ·have HWH : Hid (Pm.isWho who = false) := by unfold Hid Pm.isWho; simp; omega
    have HEE : Hid ((1 : Int) = lastE S who) := by unfold Hid lastE; rw [if_pos HWH.out]
    have HXX : Hid (oz = lastO S who) := by unfold Hid lastO; rw [if_pos HWH.out]
    have tw : ¬ 1 ≤ who ∨ (1 ≤ who ∧ ¬ who ≤ 8) := by omega
    clear hw
    rcases ht with t1 | ⟨t1, t2⟩ <;> rcases tw with u1 | ⟨u1, u2⟩
    all_goals
     go_wp2_with fail
     (try rw [HQE.out])
     generalize hwq : wz.alloc _ = wr
     rw [hwq] at HBA HWA
     rw [HEE.out]
     obtain ⟨x, hx⟩ : ∃ x, oz = x := ⟨_, rfl⟩
     rw [hx] at HWA HXX
     have HW := HWA
     have HB := HBA
     obtain ⟨v, hv⟩ : ∃ v, Value.slice none 0 0 = v := ⟨_, rfl⟩
     rw [hv] at HW
     clear hwq d3 HWA HBA hx hv HEE
     have CL := last_any D S Fd who wr (HDk.out.below HB.out)
     obtain ⟨EL, hEL⟩ : ∃ EL, lastE S who = EL := ⟨_, rfl⟩
     rw [hEL] at CL ⊢
     rw [← HXX.out] at CL
     have HXX2 := HXX
     clear hEL HXX
     refine CL.mono ?_
     rintro e w3 ⟨v3, rfl, hd3, hb3⟩
     have HB3 : Hid (Below wz.heap.size wz w3) := bel HB.out hb3
     have HW3 : Hid (Want wz w3 Q x v) := HW.out.below hb3
     have HD3 : Hid (DtsAt w3 v3 x.2.2.2.2) := hd3
     obtain ⟨p3, c3, hv3, _⟩ := hd3
     obtain ⟨pv, cv, hvv, _⟩ := HW.out.dts
     obtain ⟨⟨xa, xb⟩, xt, xp, xc, xs⟩ := x
     dsimp only at hv3 hvv HD3
     generalize hn3 : xs.length = n3 at hv3 hvv
     subst hv3 hvv
     have HXS : Hid (xs.length ≤ 1048576) := last_small HI.out HXX2.out
     clear CL hb3 HW HB hn3 HXX2
     have HBO : Hid (Below w3.heap.size w3 (w3.alloc (.cells #[.int .i64 xa, .int .i64 xb, .int .i64 xt, .string xp, .int .i64 xc, .slice p3 n3 c3] 33))) := (Below.refl _ _).alloc (Nat.le_refl _) _
     have HO4 : Hid ((w3.alloc (.cells #[.int .i64 xa, .int .i64 xb, .int .i64 xt, .string xp, .int .i64 xc, .slice p3 n3 c3] 33)).heap[w3.heap.size]? = some (.cells #[.int .i64 xa, .int .i64 xb, .int .i64 xt, .string xp, .int .i64 xc, .slice p3 n3 c3] 33)) := heap_alloc_new w3 _
     go_wp2_with fail
     generalize hw4 : w3.alloc _ = w4
     rw [hw4] at HBO HO4
     have HB4 : Hid (Below wz.heap.size wz w4) := bel HB3.out HBO.out
     have HW4 : Hid (Want wz w4 Q ((xa, xb), xt, xp, xc, xs) (.slice pv n3 cv)) := HW3.out.below HBO.out
     have HD4 : Hid (DtsAt w4 (.slice p3 n3 c3) xs) := HD3.out.below HBO.out
     generalize w3.heap.size = O4 at HO4 ⊢
     clear hw4 HB3 HW3 HD3 HBO
     refine (Kl.same_any EL EL w4 (Kl.ET.below HG.out (bel HBk.out HB4.out))).mono ?_
     rintro e w5 ⟨he, hb5⟩
     rw [show (EL == EL) = true by simp] at he
     subst he
     have HB5 : Hid (Below wz.heap.size wz w5) := bel HB4.out hb5
     have HW5 : Hid (Want wz w5 Q ((xa, xb), xt, xp, xc, xs) (.slice pv n3 cv)) := HW4.out.below hb5
     have HD5 : Hid (DtsAt w5 (.slice p3 n3 c3) xs) := HD4.out.below hb5
     have HO5 : Hid (w5.heap[O4]? = some (.cells #[.int .i64 xa, .int .i64 xb, .int .i64 xt, .string xp, .int .i64 xc, .slice p3 n3 c3] 33)) := by rw [Hid, hb5.block _ (Array.getElem?_eq_some_iff.1 HO4.out).1]; exact HO4.out
     clear hb5 HB4 HW4 HD4 HO4
     have s0 := blk_cell HO5.out (i := 0) (u := .int .i64 xa) rfl
     have s1 := blk_cell HO5.out (i := 1) (u := .int .i64 xb) rfl
     have s2 := blk_cell HO5.out (i := 2) (u := .int .i64 xt) rfl
     have s3 := blk_cell HO5.out (i := 3) (u := .string xp) rfl
     have s4 := blk_cell HO5.out (i := 4) (u := .int .i64 xc) rfl
     have s5 := blk_cell HO5.out (i := 5) (u := .slice p3 n3 c3) rfl
     have r0 := blk_cell HW5.out.blk (i := 0) (u := .int .i64 xa) rfl
     have r1 := blk_cell HW5.out.blk (i := 1) (u := .int .i64 xb) rfl
     have r2 := blk_cell HW5.out.blk (i := 2) (u := .int .i64 xt) rfl
     have r3 := blk_cell HW5.out.blk (i := 3) (u := .string xp) rfl
     have r4 := blk_cell HW5.out.blk (i := 4) (u := .int .i64 xc) rfl
     have r5 := blk_cell HW5.out.blk (i := 5) (u := .slice pv n3 cv) rfl
     go_wp2_with fail
     refine (Ol.same_op xa xb xt xp xc (.slice p3 n3 c3) xs xa xb xt xp xc (.slice pv n3 cv) xs w5 HD5.out (HW5.out.dts.below HB5.out) HXS.out).mono ?_
     rintro e w6 ⟨he, hb6⟩
     rw [show decide ((((xa, xb), xt, xp, xc, xs) : Ox) = ((xa, xb), xt, xp, xc, xs)) = true by simp] at he
     subst he
     have HB6 : Hid (Below wz.heap.size wz w6) := bel HB5.out hb6
     clear hb6 s0 s1 s2 s3 s4 s5 r0 r1 r2 r3 r4 r5 HB5 HW5 HD5 HO5 HXS
     obtain ⟨m1, m2, m3⟩ := back_same HI.out who nn (by have := HLN.out; omega)
     have CR := Be.rundo_any (Old w) E S Fr who nn w6 (HEk.out.below HB6.out)
     obtain ⟨EU, hEU⟩ : ∃ EU, undE S who nn = EU := ⟨_, rfl⟩
     rw [hEU] at CR m1 m3
     have HME : Hid (unE S who nn = EU) := m1
     have HML : Hid (EU = 0 → unL S who nn = undL S who nn) := fun e => m2 (m1.trans e)
     clear m1 m2 m3 hEU
     go_wp2_with fail
     refine CR.mono ?_
     rintro e w7 ⟨v7, rfl, ho7, hn7, hb7⟩
     have HB7 : Hid (Below wz.heap.size wz w7) := bel HB6.out hb7
     have HO7 : Hid (EU = 0 → OpsAt w7 v7 (undL S who nn)) := fun e => (ho7 e).at
     have HN7 : Hid (EU ≠ 0 → v7 = .slice none 0 0) := hn7
     obtain ⟨p7, n7, c7, rfl⟩ : ∃ p n c, v7 = .slice p n c := by
      by_cases e : EU = 0
      ·obtain ⟨p, c, e9, _⟩ := ho7 e; exact ⟨_, _, _, e9⟩
      ·exact ⟨_, _, _, hn7 e⟩
     have CU := undo_any D S Fd who nn w7 (HDk.out.below HB7.out)
     rw [HME.out] at CU
     clear CR ho7 hn7 hb7 HB6
     go_wp2_with fail
     refine CU.mono ?_
     rintro e w8 ⟨v8, rfl, ho8, hn8, hb8⟩
     have HB8 : Hid (Below wz.heap.size wz w8) := bel HB7.out hb8
     obtain ⟨p8, n8, c8, rfl⟩ : ∃ p n c, v8 = .slice p n c := by
      by_cases e : EU = 0
      ·obtain ⟨p, c, e9, _⟩ := ho8 e; exact ⟨_, _, _, e9⟩
      ·exact ⟨_, _, _, hn8 e⟩
     have HSO : Hid (∀ W, Below w8.heap.size w8 W → Calls Tryz.prog 14 #[.slice p8 n8 c8, .slice p7 n7 c7] W fun e w' => e = .returned (.bool true) ∧ Below W.heap.size W w') := fun W hb => by
      by_cases e : EU = 0
      ·have h1 := (ho8 e).at.below hb
       have h2 := ((HO7.out e).below hb8).below hb
       rw [← HML.out e] at h2
       exact (Ol.same_ops _ _ _ _ W h1 h2 (un_len HI.out HLN.out.2 who nn) (un_seen S who nn)).mono fun e w' ⟨q1, q2⟩ => ⟨by rw [q1]; simp, q2⟩
      ·have e7 := HN7.out e
       rw [hn8 e, e7]
       exact (Ol.same_ops _ _ [] [] W ⟨none, 0, rfl, Or.inl rfl, Nat.le_refl _, by unfold maxLen; omega, fun _ => rfl⟩ ⟨none, 0, rfl, Or.inl rfl, Nat.le_refl _, by unfold maxLen; omega, fun _ => rfl⟩ (by simp) (fun x hx => by cases hx)).mono fun e w' ⟨q1, q2⟩ => ⟨by rw [q1]; simp, q2⟩
     clear CU ho8 hn8 hb8 HB7 HO7 HN7
     go_wp2_with fail
     refine (Kl.same_any EU EU w8 (Kl.ET.below HG.out (bel HBk.out HB8.out))).mono ?_
     rintro e w9 ⟨he, hb9⟩
     rw [show (EU == EU) = true by simp] at he
     subst he
     have HB9 : Hid (Below wz.heap.size wz w9) := bel HB8.out hb9
     have CS := HSO.out w9 hb9
     clear hb9 HSO HB8
     go_wp2_with fail
     refine CS.mono ?_
     rintro e w10 ⟨rfl, hb10⟩
     have HB10 : Hid (Below wz.heap.size wz w10) := bel HB9.out hb10
     clear hb10 CS
     go_wp2_with fail
     go_ret
     exact ⟨rfl, bel HBk.out HB10.out⟩
end Bu
end Go.Proofs.YtnbnniapllkjlaaGreatDoor
