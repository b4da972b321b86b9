
import Derived.Test.YtnbnniapllkjlaaGreatDoorBb
import Derived.Test.YtnbnniapllkjlaaGreatDoorBd
import Derived.Test.YtnbnniapllkjlaaGreatDoorP4
import Derived.Test.YtnbnniapllkjlaaGreatDoorU0
import Derived.Deep.DeepCutAuto
import Derived.BigQuiet
import Derived.Deep.RegionHeld3
namespace Go.Proofs.YtnbnniapllkjlaaGreatDoor
namespace Be
set_option linter.unusedVariables false
set_option linter.unusedSimpArgs false
open Go.ChangeShapes Go.WideShapes Go.ChangeAt Go.RowKit Cm Ka Kb Na Om Oa Oz Oc Og Oi Hm Ia Ic Ie Um Aa Ac Xp Usp Utp Ba Bd
open La (bel bel_drew errV_zero errV_ne own_ge own_grow own_below Lies LeafsIn)
open Lj (BookAt BookNew)
open Bm (Leaf none0 ahd has leafAt bookE isL putE putL stX wrX wrE)
def Six2 (w : World) (q : Nat) (t : Int) (p : ByteArray) : Prop := w.cell? ⟨q, 2, none⟩ = some (.int .i64 t) ∧ w.cell? ⟨q, 3, none⟩ = some (.string p)
theorem chk12 {p : ByteArray} (h : Pm.chk p.toList = 0) : p.size ≤ 12 := by
 have := (Bm.chk_pos h).2
 rw [Om.len_eq] at this; exact this
theorem bk_at {w : World} {b o n c : Nat} {B : List Leaf} (h : BookAt w (.slice (some ⟨b, o, none⟩) n c) B) (j : Nat) (hj : j < B.length) : La.At w b o j (B.getD j none0) := by
 obtain ⟨p, c9, e, hin, _⟩ := h
 injection e with e1 e2 e3
 obtain ⟨b9, o9, hp, hc⟩ := hin.some (by intro e; rw [e] at hj; simp at hj)
 rw [hp] at e1
 injection e1 with e1
 injection e1 with e1 e2
 subst e1 e2
 exact hc j hj
set_option maxRecDepth 100000 in
set_option maxHeartbeats 8000000 in
theorem rundo_any (P : Nat → Prop) (E : Nat) (S : Dq) (F : Nat → Prop) (who n : Int) (w : World) (h : RefAt P w E S F) :
  Calls Tryz.prog 12 #[.pointer (some ⟨E, 0, none⟩), .int .i64 who, .int .i64 n] w (RfPost w (undE S who n) (undL S who n)) := by
 by_cases hw : who < 1 ∨ 8 < who
 ·have hE : undE S who n = 1 := by unfold undE; rw [if_pos (Or.inl (by unfold Pm.isWho; simp; omega))]
  have hL : undL S who n = [] := by unfold undL; rw [if_pos (Or.inl (by unfold Pm.isWho; simp; omega))]
  rw [hE, hL]
  have C := maker_no E who w hw
  clear h hE hL hw
  go_enter Tryz.func12, Tryz.ntmps12
  go_wp2_with fail
  refine C.mono ?_
  rintro e w1 ⟨rfl, rfl⟩
  go_wp2_with fail
  go_ret2
  exact ⟨_, rfl, fun h => absurd h (by decide), fun _ => rfl, Below.refl _ _⟩
 ·have h1 : 1 ≤ who := by omega
  have h8 : who ≤ 8 := by omega
  have hwho : Pm.isWho who = true := by unfold Pm.isWho; simp [h1, h8]
  have C := maker_ok P E S F who w h h1 h8
  by_cases hn : n < 0 ∨ 200 < n
  ·have hE : undE S who n = 1 := by unfold undE; rw [if_pos (Or.inr hn)]
   have hL : undL S who n = [] := by unfold undL; rw [if_pos (Or.inr hn)]
   rw [hE, hL]
   have tst : n < 0 ∨ (¬ n < 0 ∧ 200 < n) := by omega
   clear h hE hL hw hn
   rcases tst with q1 | ⟨q1, q2⟩
   all_goals
    go_enter Tryz.func12, Tryz.ntmps12
    go_wp2_with fail
    refine C.mono ?_
    rintro e w1 ⟨rfl, hm1, hb1⟩
    have HB1 : Hid (Below w.heap.size w w1) := hb1
    clear C hm1 hb1
    go_wp2_with fail
    go_ret2
    exact ⟨_, rfl, fun h => absurd h (by decide), fun _ => rfl, HB1.out⟩
  ·obtain ⟨m, rfl⟩ : ∃ m : Nat, n = m := ⟨n.toNat, by omega⟩
   have hm200 : m ≤ 200 := by omega
   have q1 : ¬ (m : Int) < 0 := by omega
   have q2 : ¬ (200 : Int) < (m : Int) := by omega
   obtain ⟨U, hU⟩ : ∃ U, U = und S who S.ops.reverse m S.book [] := ⟨_, rfl⟩
   have hcond : ¬ (Pm.isWho who = false ∨ (m : Int) < 0 ∨ 200 < (m : Int)) := by rw [hwho]; simp; omega
   have hE : undE S who m = U.1 := by unfold undE; rw [if_neg hcond, Int.toNat_natCast, hU]
   have hL : undL S who m = U.2 := by unfold undL; rw [if_neg hcond, Int.toNat_natCast, hU]
   rw [hE, hL]
   have HU : Hid (und S who S.ops.reverse m S.book [] = U) := hU.symm
   obtain ⟨UE, UL⟩ := U
   dsimp only
   have HI : Hid (Inv S) := h.inv
   obtain ⟨pb, nb, cb, pm, nm, cm, gk, po, no, co, hp⟩ := Xt.RefAt.parts h
   have HP : Hid (Xt.Parts w E S pb nb cb pm nm cm gk po no co) := hp
   have hno : no = S.ops.length := by obtain ⟨p9, c9, e9, _⟩ := hp.ops w (Below.refl _ _); injection e9
   have HNO : Hid (no = S.ops.length) := hno
   have hno4 : no ≤ 400 := by rw [hno]; exact h.inv.few
   have HLT : Hid (In (fun g => g < w.heap.size) (.slice pb nb cb)) := fun a m c e hm => by
    injection e with e1 e2 e3
    obtain ⟨p9, c9, e9, hi, _⟩ := hp.book w (Below.refl _ _)
    injection e9 with e91 e92 e93
    rcases hi with h0 | ⟨b, o, hp9, hc⟩
    ·rw [h0] at e92; simp at e92; omega
    ·rw [← e91, e1] at hp9
     injection hp9 with hp9
     rw [hp9]
     exact (hc 0 (by rw [← e92]; omega)).lt
   have hkn : Hid (0 ≤ kn S who ∧ kn S who ≤ S.ops.length) := kn_le HI.out h1 h8
   clear h hp hE hL hU hcond hw hn hno
   go_enter Tryz.func12, Tryz.ntmps12
   go_wp2_with fail
   refine C.mono ?_
   rintro e w1 ⟨rfl, hm1, hb1⟩
   have HB1 : Hid (Below w.heap.size w w1) := hb1
   have HZ1 : Hid (Uz' w w1 w.heap.size S who m S.ops.length m (.slice pb nb cb) S.book (.slice none 0 0) []) := Uz'.start (P := P) (E := E) (F := F) (HP.out.book w1 hb1) HI.out.book hb1 HLT.out hm1
   clear C hm1 hb1
   have c0 := HP.out.c0 w1 HB1.out
   have c3 := HP.out.c3 w1 HB1.out
   go_wp2_with fail
   go_loopw [2, 10, 11, 12, 13, 14, 15, 16, 17] (fun vn vb vi _ _ _ _ _ _ wr => ∃ (j k : Nat) (B : List Leaf) (vL : Value) (L : List (Ox × Value)), vn = .int .i64 (k : Int) ∧ vi = .int .i64 ((j : Int) - 1) ∧ j ≤ no ∧ Hid (Uz' w wr w.heap.size S who m j k vb B vL L)) (fun _ _ vi _ _ _ _ _ _ _ => (intOf vi + 1).toNat)
   case atStart => exact ⟨no, m, S.book, .slice none 0 0, [], rfl, rfl, by omega, by unfold Hid; rw [HNO.out]; exact HZ1.out⟩
   case round =>
    clear HZ1 HB1 c0 c3
    obtain ⟨j, k, B, vL, L, rfl, rfl, hj, HZ⟩ := hrel
    have hk200 : k ≤ 200 := by have := HZ.out.ln; omega
    have cM := blk_cell HZ.out.mkr.blk (i := 2) rfl
    by_cases hend : j = 0 ∨ k = 0
    ·have HUE : Hid (UE = 0) := by have := HZ.out.done hend; rw [HU.out] at this; injection this
     have HUL : Hid (UL = L.map (·.1)) := by have := HZ.out.done hend; rw [HU.out] at this; injection this
     have ht : ¬ (0 : Int) ≤ (j : Int) - 1 ∨ ((0 : Int) ≤ (j : Int) - 1 ∧ ¬ (0 : Int) < (k : Int)) := by omega
     rcases ht with t1 | ⟨t1, t2⟩
     all_goals
      go_wp2_with fail
      go_ret2
      rw [HUE.out, HUL.out]
      exact ⟨_, rfl, fun _ => HZ.out.mkr.opsJ, fun e => absurd rfl e, HZ.out.bel⟩
    ·obtain ⟨j, rfl⟩ : ∃ j', j = j' + 1 := ⟨j - 1, by omega⟩
     obtain ⟨k, rfl⟩ : ∃ k', k = k' + 1 := ⟨k - 1, by omega⟩
     rw [show ((j + 1 : Nat) : Int) - 1 = (j : Int) by omega]
     have t1 : (0 : Int) ≤ (j : Int) := by omega
     have t2 : (0 : Int) < ((k + 1 : Nat) : Int) := by omega
     have c3 := HP.out.c3 wr HZ.out.bel
     obtain ⟨pq, cq, eq, hkq, _⟩ := HP.out.ops wr HZ.out.bel
     injection eq with eq1 eq2 eq3
     subst eq1 eq3
     have HJ : Hid (j < S.ops.length) := by unfold Hid; rw [← HNO.out]; omega
     obtain ⟨ob, oo, rfl, hcq⟩ := hkq.some (by intro e; have := HJ.out; rw [e] at this; simp at this)
     obtain ⟨vs, ⟨e0, e1, e2, e3, e4, e5⟩, hdt⟩ := hcq j HJ.out
     obtain ⟨ps, cs, rfl, _⟩ := hdt
     generalize (S.ops.getD j oz).2.2.2.2.length = ns at e5
     have HCH : Hid (Pm.chk (S.ops.getD j oz).2.2.1.toList = 0) := by
      have h0 := HI.out.right (S.ops.getD j oz) (by rw [List.getD_eq_getElem?_getD, List.getElem?_eq_getElem HJ.out]; exact List.getElem_mem HJ.out)
      unfold opE at h0; unfold Hid
      split at h0
      ·contradiction
      ·split at h0
       ·cases h0
       ·split at h0
        ·contradiction
        ·rename_i q; simpa using q
     obtain ⟨⟨⟨xw, xn⟩, t, pp, cc, ss⟩, hx⟩ : ∃ x, S.ops.getD j oz = x := ⟨_, rfl⟩
     have HX : Hid (S.ops.getD j oz = ((xw, xn), t, pp, cc, ss)) := hx
     rw [hx] at e0 e1 e2 e3 e4 HCH
     dsimp only at e0 e1 e2 e3 e4 HCH
     have hjz : (j : Int) < no := by omega
     obtain ⟨pB, cB, hu, hin, _⟩ := HZ.out.bk
     subst hu
     obtain ⟨nB, hnB⟩ : ∃ nB, B.length = nB := ⟨_, rfl⟩
     rw [hnB] at HZ
     rw [hnB]
     have HNB : Hid (B.length = nB) := hnB
     have hnB3 : nB ≤ 300 := by have := (Bm.bookE_zero.1 HZ.out.ok).1; omega
     have CA := Mb.ahead_ref pB nB cB B pp
     clear hx hkq hcq eq2
     go_wp2_with fail
     have HBq : Hid (∀ O, Below wr.heap.size wr (wr.alloc O)) := fun O => (Below.refl _ _).alloc (Nat.le_refl _) O
     have HN6 : Hid (∀ (a : Array Value) t i v, a[i]? = some v → (wr.alloc (.cells a t)).cell? ⟨wr.heap.size, i, none⟩ = some v) := fun a t i v h => blk_cell (heap_alloc_new wr (.cells a t)) h
     have HZq' : Hid (∀ O, Uz' w (wr.alloc O) w.heap.size S who m (j + 1) (k + 1) (Value.slice pB nB cB) B vL L) := fun O => HZ.out.below (HBq.out O)
     generalize hwq : wr.alloc _ = wq
     have o0 : wq.cell? ⟨wr.heap.size, 0, none⟩ = some (.int .i64 xw) := by rw [← hwq]; exact HN6.out _ _ 0 _ rfl
     have o2 : wq.cell? ⟨wr.heap.size, 2, none⟩ = some (.int .i64 t) := by rw [← hwq]; exact HN6.out _ _ 2 _ rfl
     have o3 : wq.cell? ⟨wr.heap.size, 3, none⟩ = some (.string pp) := by rw [← hwq]; exact HN6.out _ _ 3 _ rfl
     have ol : wr.heap.size < wq.heap.size := by rw [← hwq]; simp
     have HZq : Hid (Uz' w wq w.heap.size S who m (j + 1) (k + 1) (Value.slice pB nB cB) B vL L) := by rw [← hwq]; exact HZq'.out _
     have HZo := HZ
     clear HBq HN6 HZq' hwq e0 e1 e2 e3 e4 e5 c3 cM HZ hin
     have HQ0 : Hid (w.heap.size < wr.heap.size ∧ ∀ g, vL.ownBlock = some g → g < wr.heap.size) := ⟨HZo.out.mkr.lt, fun g hg => (own_lt HZo.out.mkr.row g hg).1⟩
     generalize wr.heap.size = q at o0 o2 o3 ol HQ0 ⊢
     have HQ : Hid (∀ W, Below wq.heap.size wq W → q < W.heap.size ∧ q ≠ w.heap.size ∧ vL.ownBlock ≠ some q) := fun W hb => ⟨Nat.lt_of_lt_of_le ol hb.size, by have := HQ0.out.1; omega, fun e => by have := HQ0.out.2 q e; omega⟩
     have HQ2 : Hid (∀ W, Below wq.heap.size wq W → W.heap.size ≠ w.heap.size ∧ vL.ownBlock ≠ some W.heap.size) := fun W hb => ⟨by have := HQ0.out.1; have := hb.size; omega, fun e => by have := HQ0.out.2 _ e; have := hb.size; omega⟩
     clear HZo
     obtain ⟨pB9, cB9, e9, hin, _⟩ := HZq.out.bk
     injection e9 with e91 e92 e93
     subst e91 e93
     clear e92 hnB
     have CAq := CA wq HNB.out hin (by omega)
     obtain ⟨A, hA⟩ : ∃ A, ahd B pp.toList = A := ⟨_, rfl⟩
     rw [hA] at CAq
     have HAE : Hid (ahd B pp.toList = A) := hA
     have hA3 : A ≤ 300 := by have := Bm.ahead_le (p := pp.toList) (Lf.book_ok HZq.out.ok).2.1; have := HNB.out; omega
     have HSK : Hid (kind S who ((xw, xn), t, pp, cc, ss) B (L.map (·.1)) = 0 → ∀ W, Below wq.heap.size wq W → Uz' w W w.heap.size S who m j (k + 1) (Value.slice pB nB cB) B vL L) := fun e W hb => (HZq.out.skip HJ.out (by rw [HX.out]; exact e)).below hb
     have hjw : IntKind.i64.wrap ((j : Int) - 1) = (j : Int) - 1 := wrap_in (by omega) (by omega)
     clear CA
     by_cases d1 : xw = who
     case neg =>
      have d1c : (xw != who) = true := by simpa using d1
      have HS : Hid (∀ W, Below wq.heap.size wq W → Uz' w W w.heap.size S who m j (k + 1) (Value.slice pB nB cB) B vL L) := HSK.out (by unfold kind; rw [if_pos (Or.inl d1)])
      refine CAq.mono ?_
      rintro e w2 ⟨rfl, rfl⟩
      go_wp2_with fail
      go_quiet (fail)
      generalize hw2 : World.drewN _ _ = w2
      have HS2 := HS.out w2 (by rw [← hw2]; exact bel_drew (Below.refl _ _) _)
      go_wp2_with fail
      go_roundw
      case rel => exact ⟨j, k + 1, B, vL, L, rfl, rfl, by omega, HS2⟩
      case measure => first | (simp [intOf]; done) | (simp [intOf]; omega)
     case pos =>
     subst d1
     have d1c : (xw != xw) = false := by simp
     by_cases d2 : A < nB
     case neg =>
      have d2b : decide (nB ≤ A) = true := decide_eq_true (by omega)
      have HS : Hid (∀ W, Below wq.heap.size wq W → Uz' w W w.heap.size S xw m j (k + 1) (Value.slice pB nB cB) B vL L) := HSK.out (by unfold kind; rw [if_pos (Or.inr (Or.inl (by unfold has; rw [hA, HNB.out]; simp [d2])))])
      refine CAq.mono ?_
      rintro e w2 ⟨rfl, rfl⟩
      go_wp2_with fail
      go_quiet (fail)
      generalize hw2 : World.drewN _ _ = w2
      have HS2 := HS.out w2 (by rw [← hw2]; exact bel_drew (Below.refl _ _) _)
      go_wp2_with fail
      go_roundw
      case rel => exact ⟨j, k + 1, B, vL, L, rfl, rfl, by omega, HS2⟩
      case measure => first | (simp [intOf]; done) | (simp [intOf]; omega)
     case pos =>
     have d2b : decide (nB ≤ A) = false := decide_eq_false (by omega)
     have d2c : (A : Int) < nB := by omega
     obtain ⟨bb, bo, rfl, hcb⟩ := hin.some (by intro e; have := HNB.out; rw [e] at this; simp at this; omega)
     obtain ⟨f0, f1, f2⟩ := hcb A (by rw [HNB.out]; exact d2)
     obtain ⟨⟨lp, lt, ls⟩, hlf⟩ : ∃ x, B.getD A none0 = x := ⟨_, rfl⟩
     have HLF : Hid (B.getD A none0 = (lp, lt, ls)) := hlf
     rw [hlf] at f0 f1 f2
     dsimp only at f0 f1 f2
     by_cases d3 : (lp.toList == pp.toList) = true
     case neg =>
      have d3b : (lp.toList == pp.toList) = false := by simpa using d3
      have d3c : (lp.toList != pp.toList) = true := by simpa using d3
      have HS : Hid (∀ W, Below wq.heap.size wq W → Uz' w W w.heap.size S xw m j (k + 1) (Value.slice (some ⟨bb, bo, none⟩) nB cB) B vL L) := HSK.out (by unfold kind; rw [if_pos (Or.inr (Or.inl (by unfold has; rw [hA, hlf]; simp [d3b])))])
      refine CAq.mono ?_
      rintro e w2 ⟨rfl, rfl⟩
      go_wp2_with fail
      go_quiet (fail)
      generalize hw2 : World.drewN _ _ = w2
      have HS2 := HS.out w2 (by rw [← hw2]; exact bel_drew (Below.refl _ _) _)
      go_wp2_with fail
      go_roundw
      case rel => exact ⟨j, k + 1, B, vL, L, rfl, rfl, by omega, HS2⟩
      case measure => first | (simp [intOf]; done) | (simp [intOf]; omega)
     case pos =>
     have hlpp : lp = pp := mk_eq (by simpa using d3)
     subst hlpp
     have d3b : (lp.toList == lp.toList) = true := by simp
     have d3c : (lp.toList != lp.toList) = false := by simp
     clear d3
     have HH : Hid (has B lp.toList = true) := by unfold Hid has; rw [hA, hlf, HNB.out]; simp [d2]
     have HLA : Hid (leafAt B lp = (lp, lt, ls)) := by unfold Hid leafAt; rw [if_pos HH.out, hA, hlf]
     by_cases d4 : lt = 0
     case pos =>
      subst d4
      have HS : Hid (∀ W, Below wq.heap.size wq W → Uz' w W w.heap.size S xw m j (k + 1) (Value.slice (some ⟨bb, bo, none⟩) nB cB) B vL L) := HSK.out (by unfold kind; rw [if_pos (Or.inr (Or.inr (by dsimp only; rw [HLA.out])))])
      refine CAq.mono ?_
      rintro e w2 ⟨rfl, rfl⟩
      go_wp2_with fail
      go_quiet (fail)
      generalize hw2 : World.drewN _ _ = w2
      have HS2 := HS.out w2 (by rw [← hw2]; exact bel_drew (Below.refl _ _) _)
      go_wp2_with fail
      go_roundw
      case rel => exact ⟨j, k + 1, B, vL, L, rfl, rfl, by omega, HS2⟩
      case measure => first | (simp [intOf]; done) | (simp [intOf]; omega)
     case neg =>
     have d4b : (lt == 0) = false := by simpa using d4
     have HK : Hid (kind S xw ((xw, xn), t, lp, cc, ss) B (L.map (·.1)) = if t = 1 ∧ ls = false then 1 else if t = 2 ∧ ls = true ∧ cnt S.ops lp + cnt (L.map (·.1)) lp = 1 then 2 else 0) := by
      unfold Hid kind
      dsimp only
      rw [HLA.out, HH.out, if_neg (by simp [d4])]
     refine CAq.mono ?_
     rintro e w9 ⟨rfl, hw9⟩
     obtain rfl := hw9.symm
     clear CAq hA
     go_wp2_with fail
     go_quiet (fail)
     generalize hw2 : World.drewN _ _ = w2
     have HB2 : Hid (Below wq.heap.size wq w2) := by rw [← hw2]; exact bel_drew (Below.refl _ _) _
     have HO2 : Hid (∀ W, Below w2.heap.size w2 W → W.cell? ⟨q, 2, none⟩ = some (.int .i64 t) ∧ W.cell? ⟨q, 3, none⟩ = some (.string lp)) := by
      intro W hb
      have hb2 := La.bel HB2.out hb
      exact ⟨(hb2.cell (p := ⟨q, 2, none⟩) ol).trans o2, (hb2.cell (p := ⟨q, 3, none⟩) ol).trans o3⟩
     have hbl : bb < wq.heap.size := (hcb A (by rw [HNB.out]; exact d2)).lt
     have HF2 : Hid (∀ W, Below w2.heap.size w2 W → W.cell? ⟨bb, bo + A * 3, none⟩ = some (.string lp) ∧ W.cell? ⟨bb, bo + A * 3 + 1, none⟩ = some (.int .i64 lt) ∧ W.cell? ⟨bb, bo + A * 3 + 2, none⟩ = some (.bool ls)) := by
      intro W hb
      have hb2 := La.bel HB2.out hb
      exact ⟨(hb2.cell (p := ⟨bb, bo + A * 3, none⟩) hbl).trans f0, (hb2.cell (p := ⟨bb, bo + A * 3 + 1, none⟩) hbl).trans f1, (hb2.cell (p := ⟨bb, bo + A * 3 + 2, none⟩) hbl).trans f2⟩
     clear hw2 o0 o2 o3 f0 f1 f2
     obtain ⟨f0, f1, f2⟩ := HF2.out w2 (Below.refl _ _)
     obtain ⟨o2, o3⟩ := HO2.out w2 (Below.refl _ _)
     have o2a : ∀ O, (w2.alloc O).cell? ⟨q, 2, none⟩ = some (.int .i64 t) := fun O => (HO2.out _ ((Below.refl _ _).alloc (Nat.le_refl _) O)).1
     have o3a : ∀ O, (w2.alloc O).cell? ⟨q, 3, none⟩ = some (.string lp) := fun O => (HO2.out _ ((Below.refl _ _).alloc (Nat.le_refl _) O)).2
     by_cases ht1 : t = 1
     ·subst ht1
      cases ls
      ·
       have HKD : Hid (kind S xw ((xw, xn), 1, lp, cc, ss) B (L.map (·.1)) = 1) := by rw [Hid, HK.out]; simp
       have HZ3 : Hid (Uz' w (w2.alloc (.cells #[.string lp, .int .i64 lt, .bool false] 86)) w.heap.size S xw m (j + 1) (k + 1) (Value.slice (some ⟨bb, bo, none⟩) nB cB) B vL L) := (HZq.out.below HB2.out).below ((Below.refl _ _).alloc (Nat.le_refl _) _)
       have HB3 : Hid (Below wq.heap.size wq (w2.alloc (.cells #[.string lp, .int .i64 lt, .bool false] 86))) := bel HB2.out ((Below.refl _ _).alloc (Nat.le_refl _) _)
       have HXB : Hid ((w2.alloc (.cells #[.string lp, .int .i64 lt, .bool false] 86)).heap[w2.heap.size]? = some (.cells #[.string lp, .int .i64 lt, .bool false] 86)) := heap_alloc_new w2 _
       have HOQ : Hid (Six2 (w2.alloc (.cells #[.string lp, .int .i64 lt, .bool false] 86)) q 1 lp) := ⟨o2a _, o3a _⟩
       have x0 := blk_cell HXB.out (i := 0) (u := .string lp) rfl
       have x1 := blk_cell HXB.out (i := 1) (u := .int .i64 lt) rfl
       have x2 := blk_cell HXB.out (i := 2) (u := .bool false) rfl
       have HQL : Hid (q < (w2.alloc (.cells #[.string lp, .int .i64 lt, .bool false] 86)).heap.size ∧ q ≠ w.heap.size ∧ vL.ownBlock ≠ some q) := HQ.out _ HB3.out
       clear HSK HK
       go_wp2_with fail
       generalize hw3 : w2.alloc _ = w3
       rw [hw3] at HZ3 HB3 HXB HOQ HQL
       clear hw3 x0 x1 x2 o2a o3a f0 f1 f2 o2 o3 HF2 HO2 HZq HXB
       refine (Bc.add_chg w.heap.size w.heap.size xw (kn S xw + L.length) vL L 2 lp 0 (.slice none 0 0) [] w3 HZ3.out.mkr (World.ownsRow_nil _ _ _ _) HZ3.out.bel.size (by have := hkn.out; omega) (by have := hkn.out; have := HZ3.out.ln; have := HI.out.few; omega) (by have := HZ3.out.ln; omega)).mono ?_
       rintro e w4 ⟨rfl, vL4, hm4, hb4, ho4, hl4⟩
       have HM4 : Hid (MkAt w.heap.size w4 w.heap.size xw (kn S xw + L.length + 1) vL4 (L ++ [(((xw, kn S xw + L.length + 1), 2, lp, 0, []), .slice none 0 0)])) := hm4
       have HB4 : Hid (Below w.heap.size w w4) := HZ3.out.bel.trans hb4
       have HK4 : Hid (BookAt w4 (Value.slice (some ⟨bb, bo, none⟩) nB cB) B) := HZ3.out.add hm4 (by have := hb4.size; exact this) ho4
       have c3 : w4.cell? ⟨q, 3, none⟩ = some (.string lp) := (cell_stay (ho4 q HQL.out.1 HQL.out.2.1 HQL.out.2.2)).trans HOQ.out.2
       clear hm4 hb4 ho4 hl4
       go_wp2_with fail
       refine (Me.strike_loc _ B lp w4 HK4.out HZ3.out.ok).mono ?_
       rintro e w5 ⟨v5, rfl, hk5, hb5⟩
       have HZ5 : Hid (Uz' w w5 w.heap.size S xw m j k v5 (stB ((xw, xn), 1, lp, cc, ss) B) vL4 (L ++ [(((xw, kn S xw + L.length + 1), 2, lp, 0, []), .slice none 0 0)])) := by
        have q9 := HZ3.out.st (vs := .slice none 0 0) (v' := v5) (w5 := w5) HJ.out (by rw [HX.out]; exact HKD.out) (by rw [HX.out]; exact HCH.out) (by rw [HX.out]; exact HM4.out) HB4.out (by rw [HX.out]; exact hk5) hb5
        rw [HX.out] at q9; exact q9
       obtain ⟨p5, n5, c5, rfl⟩ : ∃ p n c, v5 = .slice p n c := by obtain ⟨p, c, e, _⟩ := hk5.1; exact ⟨_, _, _, e⟩
       have hkw : IntKind.i64.wrap (((k + 1 : Nat) : Int) - 1) = (k : Int) := by rw [show (((k + 1 : Nat) : Int) - 1) = (k : Int) by omega]; exact wrap_in (by omega) (by omega)
       clear hk5 hb5 c3
       go_wp2_with fail
       go_roundw
       case rel => exact ⟨j, k, _, _, _, by first | rfl | go_num, rfl, by omega, HZ5⟩
       case measure => first | (simp [intOf]; done) | (simp [intOf]; omega)
      ·
       have HS : Hid (∀ W, Below wq.heap.size wq W → Uz' w W w.heap.size S xw m j (k + 1) (Value.slice (some ⟨bb, bo, none⟩) nB cB) B vL L) := HSK.out (by rw [HK.out]; simp)
       have HZ3 : Hid (Uz' w (w2.alloc (.cells #[.string lp, .int .i64 lt, .bool true] 86)) w.heap.size S xw m (j + 1) (k + 1) (Value.slice (some ⟨bb, bo, none⟩) nB cB) B vL L) := (HZq.out.below HB2.out).below ((Below.refl _ _).alloc (Nat.le_refl _) _)
       have HB3 : Hid (Below wq.heap.size wq (w2.alloc (.cells #[.string lp, .int .i64 lt, .bool true] 86))) := bel HB2.out ((Below.refl _ _).alloc (Nat.le_refl _) _)
       have HXB : Hid ((w2.alloc (.cells #[.string lp, .int .i64 lt, .bool true] 86)).heap[w2.heap.size]? = some (.cells #[.string lp, .int .i64 lt, .bool true] 86)) := heap_alloc_new w2 _
       have HOQ : Hid (Six2 (w2.alloc (.cells #[.string lp, .int .i64 lt, .bool true] 86)) q 1 lp) := ⟨o2a _, o3a _⟩
       have x0 := blk_cell HXB.out (i := 0) (u := .string lp) rfl
       have x1 := blk_cell HXB.out (i := 1) (u := .int .i64 lt) rfl
       have x2 := blk_cell HXB.out (i := 2) (u := .bool true) rfl
       clear HSK HK
       go_wp2_with fail
       go_quiet (fail)
       generalize hw4 : World.drewN _ _ = w4
       have HBE : Hid (Below wq.heap.size wq w4) := by rw [Hid, ← hw4]; exact bel_drew HB3.out _
       clear hw4
       have HS2 := HS.out w4 HBE.out
       go_wp2_with fail
       go_roundw
       case rel => exact ⟨j, k + 1, B, _, L, rfl, rfl, by omega, HS2⟩
       case measure => first | (simp [intOf]; done) | (simp [intOf]; omega)
     ·have t1b : (t == 1) = false := by simpa using ht1
      by_cases ht2 : t = 2
      ·subst ht2
       cases ls
       ·
        have HS : Hid (∀ W, Below wq.heap.size wq W → Uz' w W w.heap.size S xw m j (k + 1) (Value.slice (some ⟨bb, bo, none⟩) nB cB) B vL L) := HSK.out (by rw [HK.out]; simp)
        have HZ3 : Hid (Uz' w (w2.alloc (.cells #[.string lp, .int .i64 lt, .bool false] 86)) w.heap.size S xw m (j + 1) (k + 1) (Value.slice (some ⟨bb, bo, none⟩) nB cB) B vL L) := (HZq.out.below HB2.out).below ((Below.refl _ _).alloc (Nat.le_refl _) _)
        have HB3 : Hid (Below wq.heap.size wq (w2.alloc (.cells #[.string lp, .int .i64 lt, .bool false] 86))) := bel HB2.out ((Below.refl _ _).alloc (Nat.le_refl _) _)
        have HXB : Hid ((w2.alloc (.cells #[.string lp, .int .i64 lt, .bool false] 86)).heap[w2.heap.size]? = some (.cells #[.string lp, .int .i64 lt, .bool false] 86)) := heap_alloc_new w2 _
        have HOQ : Hid (Six2 (w2.alloc (.cells #[.string lp, .int .i64 lt, .bool false] 86)) q 2 lp) := ⟨o2a _, o3a _⟩
        have x0 := blk_cell HXB.out (i := 0) (u := .string lp) rfl
        have x1 := blk_cell HXB.out (i := 1) (u := .int .i64 lt) rfl
        have x2 := blk_cell HXB.out (i := 2) (u := .bool false) rfl
        clear HSK HK
        go_wp2_with fail
        go_quiet (fail)
        generalize hw4 : World.drewN _ _ = w4
        have HBE : Hid (Below wq.heap.size wq w4) := by rw [Hid, ← hw4]; exact bel_drew HB3.out _
        clear hw4
        have HS2 := HS.out w4 HBE.out
        go_wp2_with fail
        go_roundw
        case rel => exact ⟨j, k + 1, B, _, L, rfl, rfl, by omega, HS2⟩
        case measure => first | (simp [intOf]; done) | (simp [intOf]; omega)
       ·by_cases hsum : cnt S.ops lp + cnt (L.map (·.1)) lp = 1
        ·by_cases hmore : A + 1 < nB
         ·
          have HKD : Hid (kind S xw ((xw, xn), 2, lp, cc, ss) B (L.map (·.1)) = 2) := by rw [Hid, HK.out, if_neg (by simp), if_pos ⟨rfl, rfl, hsum⟩]
          have HZ3 : Hid (Uz' w (w2.alloc (.cells #[.string lp, .int .i64 lt, .bool true] 86)) w.heap.size S xw m (j + 1) (k + 1) (Value.slice (some ⟨bb, bo, none⟩) nB cB) B vL L) := (HZq.out.below HB2.out).below ((Below.refl _ _).alloc (Nat.le_refl _) _)
          have HB3 : Hid (Below wq.heap.size wq (w2.alloc (.cells #[.string lp, .int .i64 lt, .bool true] 86))) := bel HB2.out ((Below.refl _ _).alloc (Nat.le_refl _) _)
          have HXB : Hid ((w2.alloc (.cells #[.string lp, .int .i64 lt, .bool true] 86)).heap[w2.heap.size]? = some (.cells #[.string lp, .int .i64 lt, .bool true] 86)) := heap_alloc_new w2 _
          have HOQ : Hid (Six2 (w2.alloc (.cells #[.string lp, .int .i64 lt, .bool true] 86)) q 2 lp) := ⟨o2a _, o3a _⟩
          have x0 := blk_cell HXB.out (i := 0) (u := .string lp) rfl
          have x1 := blk_cell HXB.out (i := 1) (u := .int .i64 lt) rfl
          have x2 := blk_cell HXB.out (i := 2) (u := .bool true) rfl
          have C1 : ∀ i, Calls Tryz.prog 34 #[.slice (some ⟨ob, oo, none⟩) no co, .string lp] ((w2.alloc (.cells #[.string lp, .int .i64 lt, .bool true] 86)).drewN i) fun e w' => e = .returned (.int .i64 (cnt S.ops lp)) ∧ w' = ((w2.alloc (.cells #[.string lp, .int .i64 lt, .bool true] 86)).drewN i) := fun i => Bb.strikes_ref _ S.ops lp _ (HP.out.ops _ (bel HZ3.out.bel (bel_drew (Below.refl _ _) i))) (by have := HI.out.few; omega)
          obtain ⟨pr, nr, cr, rfl, _⟩ := own_shape HZ3.out.mkr.row
          have C2 : ∀ i, Calls Tryz.prog 34 #[.slice pr nr cr, .string lp] ((w2.alloc (.cells #[.string lp, .int .i64 lt, .bool true] 86)).drewN i) fun e w' => e = .returned (.int .i64 (cnt (L.map (·.1)) lp)) ∧ w' = ((w2.alloc (.cells #[.string lp, .int .i64 lt, .bool true] 86)).drewN i) := fun i => Bb.strikes_ref _ (L.map (·.1)) lp _ ((HZ3.out.below (bel_drew (Below.refl _ _) i)).mkr.opsJ.at) (by rw [List.length_map]; have := HZ3.out.ln; omega)
          have m2 := blk_cell HZ3.out.mkr.blk (i := 2) (u := .slice pr nr cr) rfl
          have e3 := HP.out.c3 _ HZ3.out.bel
          have hcs : cnt S.ops lp ≤ 400 := Nat.le_trans (cnt_le _ _) HI.out.few
          have hcl : cnt (L.map (·.1)) lp ≤ 200 := by have h1 := cnt_le (L.map (·.1)) lp; rw [List.length_map] at h1; have := HZ3.out.ln; omega
          have hsw : IntKind.i64.wrap ((cnt S.ops lp : Int) + (cnt (L.map (·.1)) lp : Int)) = (cnt S.ops lp : Int) + (cnt (L.map (·.1)) lp : Int) := wrap_in (by omega) (by omega)
          have hsb : ((cnt S.ops lp : Int) + (cnt (L.map (·.1)) lp : Int) == 1) = true := by rw [beq_iff_eq]; omega
          generalize (cnt S.ops lp : Int) = za at C1 hsw hsb
          generalize (cnt (L.map (·.1)) lp : Int) = zb at C2 hsw hsb
          have HQL : Hid (∀ W, Below wq.heap.size wq W → q < W.heap.size ∧ q ≠ w.heap.size ∧ (Value.slice pr nr cr).ownBlock ≠ some q) := HQ.out
          have HXQ : Hid (w2.heap.size ≠ w.heap.size ∧ (Value.slice pr nr cr).ownBlock ≠ some w2.heap.size) := HQ2.out w2 HB2.out
          clear HSK HK hcs hcl hsum HB2
          go_wp2_with fail
          generalize hw3 : w2.alloc _ = w3 at HZ3 HB3 HXB HOQ m2 e3 C1 C2 x0 x1 x2 ⊢
          clear hw3 o2a o3a f0 f1 f2 o2 o3 HF2 HO2 HZq hcb hin x0 x1
          obtain ⟨o2, o3⟩ := HOQ.out
          generalize w2.heap.size = xb at HXB x2 HXQ ⊢
          go_quiet (first | with_reducible exact Calls.quiet_of_same (C1 _) | with_reducible exact Calls.quiet_of_same (C2 _))
          clear C1 C2
          generalize hw4 : World.drewN _ _ = w4
          have HB4 : Hid (Below wq.heap.size wq w4) := by rw [Hid, ← hw4]; exact bel_drew HB3.out _
          have HZ4 : Hid (Uz' w w4 w.heap.size S xw m (j + 1) (k + 1) (Value.slice (some ⟨bb, bo, none⟩) nB cB) B (.slice pr nr cr) L) := by rw [Hid, ← hw4]; exact HZ3.out.below (bel_drew (Below.refl _ _) _)
          have HX4 : Hid (w4.heap[xb]? = some (.cells #[.string lp, .int .i64 lt, .bool true] 86)) := by rw [Hid, ← hw4]; exact HXB.out
          have HO4 : Hid (Six2 w4 q 2 lp) := by rw [Hid, ← hw4]; exact HOQ.out
          clear hw4 x2 o2 o3 HXB HOQ HZ3 HB3 m2 e3 hsw hsb
          have x0 := blk_cell HX4.out (i := 0) (u := .string lp) rfl
          have x1 := blk_cell HX4.out (i := 1) (u := .int .i64 lt) rfl
          obtain ⟨pl, hpl⟩ : ∃ pl, newP xw ((xw, xn), 2, lp, cc, ss) B = pl := ⟨_, rfl⟩
          have HPL : Hid (newP xw ((xw, xn), 2, lp, cc, ss) B = pl) := hpl
          obtain ⟨E, hE⟩ : ∃ E, betE xw ((xw, xn), 2, lp, cc, ss) B = E := ⟨_, rfl⟩
          have HE : Hid (betE xw ((xw, xn), 2, lp, cc, ss) B = E) := hE
          have HLT : Hid (let' ((xw, xn), 2, lp, cc, ss) B = lt) := by unfold Hid let'; dsimp only; rw [HLA.out]
          obtain ⟨bh, hbh⟩ : ∃ bh, behind B lp = bh := ⟨_, rfl⟩
          have hlpz : lp.size ≤ maxLen := by have := chk12 HCH.out; unfold maxLen; omega
          have hA1 : (A : Int) + 1 < nB := by omega
          have hA1w : IntKind.i64.wrap ((A : Int) + 1) = (A : Int) + 1 := wrap_in (by omega) (by omega)
          have hA10 : (0 : Int) ≤ (A : Int) + 1 := by omega
          have hA1n : ((A : Int) + 1).toNat = A + 1 := by omega
          have hbe : bh = (B.getD (A + 1) none0).1 := by rw [← hbh]; unfold behind; rw [HAE.out, if_pos (by rw [HNB.out]; omega)]
          obtain ⟨g0, _, _⟩ := bk_at HZ4.out.bk (A + 1) (by rw [HNB.out]; omega)
          rw [← hbe] at g0
          have hbz : bh.size ≤ maxLen := by rw [hbe]; have := chk12 (Bm.leafE_zero.1 ((Bm.bookE_zero.1 HZ4.out.ok).2.1 _ (Bm.getD_mem (by rw [HNB.out]; omega)))).1; unfold maxLen; omega
          clear hbe
          have CB := Qi.between_ref lp bh xw w4 hlpz hbz h1 h8 pl (by rw [← hpl, ← hbh]; rfl) E (by rw [← hE, ← hbh]; rfl)
          clear hpl hE hbh hlpz hbz
          by_cases hE0 : E = 0
          ·subst hE0
           go_wp2_with fail
           refine CB.mono ?_
           rintro e w5 ⟨rfl, hb5⟩
           have HZ5 : Hid (Uz' w w5 w.heap.size S xw m (j + 1) (k + 1) (Value.slice (some ⟨bb, bo, none⟩) nB cB) B (.slice pr nr cr) L) := HZ4.out.below hb5
           have hxbl : xb < w4.heap.size := (Array.getElem?_eq_some_iff.1 HX4.out).1
           have HX5 : Hid (w5.heap[xb]? = some (.cells #[.string lp, .int .i64 lt, .bool true] 86)) := by rw [Hid, hb5.block _ hxbl]; exact HX4.out
           have hxb5 : xb < w5.heap.size := Nat.lt_of_lt_of_le hxbl hb5.size
           clear hb5 CB x0 x1 HX4 HZ4 g0
           have x1 := blk_cell HX5.out (i := 1) (u := .int .i64 lt) rfl
           go_wp2_with fail
           refine (Bc.add_chg w.heap.size w.heap.size xw (kn S xw + L.length) (.slice pr nr cr) L 1 pl lt (.slice none 0 0) [] w5 HZ5.out.mkr (World.ownsRow_nil _ _ _ _) HZ5.out.bel.size (by have := hkn.out; omega) (by have := hkn.out; have := HZ5.out.ln; have := HI.out.few; omega) (by have := HZ5.out.ln; omega)).mono ?_
           rintro e w6 ⟨rfl, vL6, hm6, hb6, ho6, hl6⟩
           have HM6 : Hid (MkAt w.heap.size w6 w.heap.size xw (kn S xw + L.length + 1) vL6 (L ++ [(((xw, kn S xw + L.length + 1), 1, pl, lt, []), .slice none 0 0)])) := hm6
           have HB6 : Hid (Below w.heap.size w w6) := HZ5.out.bel.trans hb6
           have HK6 : Hid (BookAt w6 (Value.slice (some ⟨bb, bo, none⟩) nB cB) B) := HZ5.out.add hm6 hb6.size ho6
           have c1 : w6.cell? ⟨xb, 1, none⟩ = some (.int .i64 lt) := (cell_stay (ho6 xb hxb5 HXQ.out.1 HXQ.out.2)).trans x1
           clear hm6 hb6 ho6 hl6 x1
           go_wp2_with fail
           refine (Me.write_loc _ B pl lt w6 HK6.out HZ5.out.ok).mono ?_
           rintro e w7 ⟨v7, rfl, hk7, hb7⟩
           have HB7 : Hid (Below w.heap.size w w7) := bel HB6.out hb7
           obtain ⟨p7, n7, c7, rfl⟩ : ∃ p n c, v7 = .slice p n c := by obtain ⟨p, c, e, _⟩ := hk7.1; exact ⟨_, _, _, e⟩
           by_cases hW : wrE B pl lt = 0
           ·have HZ7 : Hid (Uz' w w7 w.heap.size S xw m j k (.slice p7 n7 c7) (wrB xw ((xw, xn), 2, lp, cc, ss) B) vL6 (L ++ [(((xw, kn S xw + L.length + 1), 1, pl, lt, []), .slice none 0 0)])) := by
             have q9 := HZ5.out.wrt (vs := .slice none 0 0) (v' := .slice p7 n7 c7) (w5 := w7) HJ.out (by rw [HX.out]; exact HKD.out) (by rw [HX.out]; exact HE.out) (by rw [HX.out, HPL.out, HLT.out]; exact hW) (by rw [HX.out, HPL.out, HLT.out]; exact HM6.out) HB6.out (by rw [HX.out, HPL.out, HLT.out]; exact hk7) hb7
             rw [HX.out, HPL.out, HLT.out] at q9; exact q9
            have hkw : IntKind.i64.wrap (((k + 1 : Nat) : Int) - 1) = (k : Int) := by rw [show (((k + 1 : Nat) : Int) - 1) = (k : Int) by omega]; exact wrap_in (by omega) (by omega)
            rw [hW]
            clear hk7 hb7 hW c1
            go_wp2_with fail
            go_roundw
            case rel => exact ⟨j, k, _, _, _, by first | rfl | go_num, rfl, by omega, HZ7⟩
            case measure => first | (simp [intOf]; done) | (simp [intOf]; omega)
           ·have HEU : Hid (UE = wrE B pl lt ∧ UL = []) := by
             have q9 := HZ5.out.e2 HJ.out (by rw [HX.out]; exact HKD.out) (by rw [HX.out]; exact HE.out) (by rw [HX.out, HPL.out, HLT.out]; exact hW)
             rw [HU.out, HX.out, HPL.out, HLT.out] at q9
             injection q9 with q8 q7; exact ⟨q8, q7⟩
            have HWN : Hid (wrE B pl lt ≠ 0) := hW
            have hWb : (wrE B pl lt != 0) = true := by simpa using hW
            generalize wrE B pl lt = E9 at HEU HWN hWb ⊢
            clear hk7 hb7 hW c1
            go_wp2_with fail
            go_ret2
            rw [HEU.out.1]
            exact ⟨_, rfl, fun e => absurd e HWN.out, fun _ => rfl, HB7.out⟩
          ·have HEU : Hid (UE = E ∧ UL = []) := by
            have q9 := HZ4.out.e1 HJ.out (by rw [HX.out]; exact HKD.out) (by rw [HX.out, HE.out]; exact hE0)
            rw [HU.out, HX.out, HE.out] at q9
            injection q9 with q8 q7; exact ⟨q8, q7⟩
           have hEb : (E != 0) = true := by simpa using hE0
           have HEN : Hid (E ≠ 0) := hE0
           clear hE0
           go_wp2_with fail
           refine CB.mono ?_
           rintro e w5 ⟨rfl, hb5⟩
           have HB5 : Hid (Below w.heap.size w w5) := bel HZ4.out.bel hb5
           clear hb5 CB
           go_wp2_with fail
           go_ret2
           rw [HEU.out.1]
           exact ⟨_, rfl, fun e => absurd e HEN.out, fun _ => rfl, HB5.out⟩
         ·
          have HKD : Hid (kind S xw ((xw, xn), 2, lp, cc, ss) B (L.map (·.1)) = 2) := by rw [Hid, HK.out, if_neg (by simp), if_pos ⟨rfl, rfl, hsum⟩]
          have HZ3 : Hid (Uz' w (w2.alloc (.cells #[.string lp, .int .i64 lt, .bool true] 86)) w.heap.size S xw m (j + 1) (k + 1) (Value.slice (some ⟨bb, bo, none⟩) nB cB) B vL L) := (HZq.out.below HB2.out).below ((Below.refl _ _).alloc (Nat.le_refl _) _)
          have HB3 : Hid (Below wq.heap.size wq (w2.alloc (.cells #[.string lp, .int .i64 lt, .bool true] 86))) := bel HB2.out ((Below.refl _ _).alloc (Nat.le_refl _) _)
          have HXB : Hid ((w2.alloc (.cells #[.string lp, .int .i64 lt, .bool true] 86)).heap[w2.heap.size]? = some (.cells #[.string lp, .int .i64 lt, .bool true] 86)) := heap_alloc_new w2 _
          have HOQ : Hid (Six2 (w2.alloc (.cells #[.string lp, .int .i64 lt, .bool true] 86)) q 2 lp) := ⟨o2a _, o3a _⟩
          have x0 := blk_cell HXB.out (i := 0) (u := .string lp) rfl
          have x1 := blk_cell HXB.out (i := 1) (u := .int .i64 lt) rfl
          have x2 := blk_cell HXB.out (i := 2) (u := .bool true) rfl
          have C1 : ∀ i, Calls Tryz.prog 34 #[.slice (some ⟨ob, oo, none⟩) no co, .string lp] ((w2.alloc (.cells #[.string lp, .int .i64 lt, .bool true] 86)).drewN i) fun e w' => e = .returned (.int .i64 (cnt S.ops lp)) ∧ w' = ((w2.alloc (.cells #[.string lp, .int .i64 lt, .bool true] 86)).drewN i) := fun i => Bb.strikes_ref _ S.ops lp _ (HP.out.ops _ (bel HZ3.out.bel (bel_drew (Below.refl _ _) i))) (by have := HI.out.few; omega)
          obtain ⟨pr, nr, cr, rfl, _⟩ := own_shape HZ3.out.mkr.row
          have C2 : ∀ i, Calls Tryz.prog 34 #[.slice pr nr cr, .string lp] ((w2.alloc (.cells #[.string lp, .int .i64 lt, .bool true] 86)).drewN i) fun e w' => e = .returned (.int .i64 (cnt (L.map (·.1)) lp)) ∧ w' = ((w2.alloc (.cells #[.string lp, .int .i64 lt, .bool true] 86)).drewN i) := fun i => Bb.strikes_ref _ (L.map (·.1)) lp _ ((HZ3.out.below (bel_drew (Below.refl _ _) i)).mkr.opsJ.at) (by rw [List.length_map]; have := HZ3.out.ln; omega)
          have m2 := blk_cell HZ3.out.mkr.blk (i := 2) (u := .slice pr nr cr) rfl
          have e3 := HP.out.c3 _ HZ3.out.bel
          have hcs : cnt S.ops lp ≤ 400 := Nat.le_trans (cnt_le _ _) HI.out.few
          have hcl : cnt (L.map (·.1)) lp ≤ 200 := by have h1 := cnt_le (L.map (·.1)) lp; rw [List.length_map] at h1; have := HZ3.out.ln; omega
          have hsw : IntKind.i64.wrap ((cnt S.ops lp : Int) + (cnt (L.map (·.1)) lp : Int)) = (cnt S.ops lp : Int) + (cnt (L.map (·.1)) lp : Int) := wrap_in (by omega) (by omega)
          have hsb : ((cnt S.ops lp : Int) + (cnt (L.map (·.1)) lp : Int) == 1) = true := by rw [beq_iff_eq]; omega
          generalize (cnt S.ops lp : Int) = za at C1 hsw hsb
          generalize (cnt (L.map (·.1)) lp : Int) = zb at C2 hsw hsb
          have HQL : Hid (∀ W, Below wq.heap.size wq W → q < W.heap.size ∧ q ≠ w.heap.size ∧ (Value.slice pr nr cr).ownBlock ≠ some q) := HQ.out
          have HXQ : Hid (w2.heap.size ≠ w.heap.size ∧ (Value.slice pr nr cr).ownBlock ≠ some w2.heap.size) := HQ2.out w2 HB2.out
          clear HSK HK hcs hcl hsum HB2
          go_wp2_with fail
          generalize hw3 : w2.alloc _ = w3 at HZ3 HB3 HXB HOQ m2 e3 C1 C2 x0 x1 x2 ⊢
          clear hw3 o2a o3a f0 f1 f2 o2 o3 HF2 HO2 HZq hcb hin x0 x1
          obtain ⟨o2, o3⟩ := HOQ.out
          generalize w2.heap.size = xb at HXB x2 HXQ ⊢
          go_quiet (first | with_reducible exact Calls.quiet_of_same (C1 _) | with_reducible exact Calls.quiet_of_same (C2 _))
          clear C1 C2
          generalize hw4 : World.drewN _ _ = w4
          have HB4 : Hid (Below wq.heap.size wq w4) := by rw [Hid, ← hw4]; exact bel_drew HB3.out _
          have HZ4 : Hid (Uz' w w4 w.heap.size S xw m (j + 1) (k + 1) (Value.slice (some ⟨bb, bo, none⟩) nB cB) B (.slice pr nr cr) L) := by rw [Hid, ← hw4]; exact HZ3.out.below (bel_drew (Below.refl _ _) _)
          have HX4 : Hid (w4.heap[xb]? = some (.cells #[.string lp, .int .i64 lt, .bool true] 86)) := by rw [Hid, ← hw4]; exact HXB.out
          have HO4 : Hid (Six2 w4 q 2 lp) := by rw [Hid, ← hw4]; exact HOQ.out
          clear hw4 x2 o2 o3 HXB HOQ HZ3 HB3 m2 e3 hsw hsb
          have x0 := blk_cell HX4.out (i := 0) (u := .string lp) rfl
          have x1 := blk_cell HX4.out (i := 1) (u := .int .i64 lt) rfl
          obtain ⟨pl, hpl⟩ : ∃ pl, newP xw ((xw, xn), 2, lp, cc, ss) B = pl := ⟨_, rfl⟩
          have HPL : Hid (newP xw ((xw, xn), 2, lp, cc, ss) B = pl) := hpl
          obtain ⟨E, hE⟩ : ∃ E, betE xw ((xw, xn), 2, lp, cc, ss) B = E := ⟨_, rfl⟩
          have HE : Hid (betE xw ((xw, xn), 2, lp, cc, ss) B = E) := hE
          have HLT : Hid (let' ((xw, xn), 2, lp, cc, ss) B = lt) := by unfold Hid let'; dsimp only; rw [HLA.out]
          obtain ⟨bh, hbh⟩ : ∃ bh, behind B lp = bh := ⟨_, rfl⟩
          have hlpz : lp.size ≤ maxLen := by have := chk12 HCH.out; unfold maxLen; omega
          have hA1 : ¬ (A : Int) + 1 < nB := by omega
          have hA1w : IntKind.i64.wrap ((A : Int) + 1) = (A : Int) + 1 := wrap_in (by omega) (by omega)
          have hbe : bh = ⟨#[]⟩ := by rw [← hbh]; unfold behind; rw [HAE.out, if_neg (by rw [HNB.out]; omega)]
          have hbz : bh.size ≤ maxLen := by rw [hbe]; unfold maxLen; show (0 : Nat) ≤ _; omega
          have CB := Qi.between_ref lp bh xw w4 hlpz hbz h1 h8 pl (by rw [← hpl, ← hbh]; rfl) E (by rw [← hE, ← hbh]; rfl)
          subst hbe
          clear hpl hE hbh hlpz hbz
          by_cases hE0 : E = 0
          ·subst hE0
           go_wp2_with fail
           refine CB.mono ?_
           rintro e w5 ⟨rfl, hb5⟩
           have HZ5 : Hid (Uz' w w5 w.heap.size S xw m (j + 1) (k + 1) (Value.slice (some ⟨bb, bo, none⟩) nB cB) B (.slice pr nr cr) L) := HZ4.out.below hb5
           have hxbl : xb < w4.heap.size := (Array.getElem?_eq_some_iff.1 HX4.out).1
           have HX5 : Hid (w5.heap[xb]? = some (.cells #[.string lp, .int .i64 lt, .bool true] 86)) := by rw [Hid, hb5.block _ hxbl]; exact HX4.out
           have hxb5 : xb < w5.heap.size := Nat.lt_of_lt_of_le hxbl hb5.size
           clear hb5 CB x0 x1 HX4 HZ4
           have x1 := blk_cell HX5.out (i := 1) (u := .int .i64 lt) rfl
           go_wp2_with fail
           refine (Bc.add_chg w.heap.size w.heap.size xw (kn S xw + L.length) (.slice pr nr cr) L 1 pl lt (.slice none 0 0) [] w5 HZ5.out.mkr (World.ownsRow_nil _ _ _ _) HZ5.out.bel.size (by have := hkn.out; omega) (by have := hkn.out; have := HZ5.out.ln; have := HI.out.few; omega) (by have := HZ5.out.ln; omega)).mono ?_
           rintro e w6 ⟨rfl, vL6, hm6, hb6, ho6, hl6⟩
           have HM6 : Hid (MkAt w.heap.size w6 w.heap.size xw (kn S xw + L.length + 1) vL6 (L ++ [(((xw, kn S xw + L.length + 1), 1, pl, lt, []), .slice none 0 0)])) := hm6
           have HB6 : Hid (Below w.heap.size w w6) := HZ5.out.bel.trans hb6
           have HK6 : Hid (BookAt w6 (Value.slice (some ⟨bb, bo, none⟩) nB cB) B) := HZ5.out.add hm6 hb6.size ho6
           have c1 : w6.cell? ⟨xb, 1, none⟩ = some (.int .i64 lt) := (cell_stay (ho6 xb hxb5 HXQ.out.1 HXQ.out.2)).trans x1
           clear hm6 hb6 ho6 hl6 x1
           go_wp2_with fail
           refine (Me.write_loc _ B pl lt w6 HK6.out HZ5.out.ok).mono ?_
           rintro e w7 ⟨v7, rfl, hk7, hb7⟩
           have HB7 : Hid (Below w.heap.size w w7) := bel HB6.out hb7
           obtain ⟨p7, n7, c7, rfl⟩ : ∃ p n c, v7 = .slice p n c := by obtain ⟨p, c, e, _⟩ := hk7.1; exact ⟨_, _, _, e⟩
           by_cases hW : wrE B pl lt = 0
           ·have HZ7 : Hid (Uz' w w7 w.heap.size S xw m j k (.slice p7 n7 c7) (wrB xw ((xw, xn), 2, lp, cc, ss) B) vL6 (L ++ [(((xw, kn S xw + L.length + 1), 1, pl, lt, []), .slice none 0 0)])) := by
             have q9 := HZ5.out.wrt (vs := .slice none 0 0) (v' := .slice p7 n7 c7) (w5 := w7) HJ.out (by rw [HX.out]; exact HKD.out) (by rw [HX.out]; exact HE.out) (by rw [HX.out, HPL.out, HLT.out]; exact hW) (by rw [HX.out, HPL.out, HLT.out]; exact HM6.out) HB6.out (by rw [HX.out, HPL.out, HLT.out]; exact hk7) hb7
             rw [HX.out, HPL.out, HLT.out] at q9; exact q9
            have hkw : IntKind.i64.wrap (((k + 1 : Nat) : Int) - 1) = (k : Int) := by rw [show (((k + 1 : Nat) : Int) - 1) = (k : Int) by omega]; exact wrap_in (by omega) (by omega)
            rw [hW]
            clear hk7 hb7 hW c1
            go_wp2_with fail
            go_roundw
            case rel => exact ⟨j, k, _, _, _, by first | rfl | go_num, rfl, by omega, HZ7⟩
            case measure => first | (simp [intOf]; done) | (simp [intOf]; omega)
           ·have HEU : Hid (UE = wrE B pl lt ∧ UL = []) := by
             have q9 := HZ5.out.e2 HJ.out (by rw [HX.out]; exact HKD.out) (by rw [HX.out]; exact HE.out) (by rw [HX.out, HPL.out, HLT.out]; exact hW)
             rw [HU.out, HX.out, HPL.out, HLT.out] at q9
             injection q9 with q8 q7; exact ⟨q8, q7⟩
            have HWN : Hid (wrE B pl lt ≠ 0) := hW
            have hWb : (wrE B pl lt != 0) = true := by simpa using hW
            generalize wrE B pl lt = E9 at HEU HWN hWb ⊢
            clear hk7 hb7 hW c1
            go_wp2_with fail
            go_ret2
            rw [HEU.out.1]
            exact ⟨_, rfl, fun e => absurd e HWN.out, fun _ => rfl, HB7.out⟩
          ·have HEU : Hid (UE = E ∧ UL = []) := by
            have q9 := HZ4.out.e1 HJ.out (by rw [HX.out]; exact HKD.out) (by rw [HX.out, HE.out]; exact hE0)
            rw [HU.out, HX.out, HE.out] at q9
            injection q9 with q8 q7; exact ⟨q8, q7⟩
           have hEb : (E != 0) = true := by simpa using hE0
           have HEN : Hid (E ≠ 0) := hE0
           clear hE0
           go_wp2_with fail
           refine CB.mono ?_
           rintro e w5 ⟨rfl, hb5⟩
           have HB5 : Hid (Below w.heap.size w w5) := bel HZ4.out.bel hb5
           clear hb5 CB
           go_wp2_with fail
           go_ret2
           rw [HEU.out.1]
           exact ⟨_, rfl, fun e => absurd e HEN.out, fun _ => rfl, HB5.out⟩
        ·
         have HS : Hid (∀ W, Below wq.heap.size wq W → Uz' w W w.heap.size S xw m j (k + 1) (Value.slice (some ⟨bb, bo, none⟩) nB cB) B vL L) := HSK.out (by rw [HK.out, if_neg (by simp), if_neg (fun e => hsum e.2.2)])
         have HZ3 : Hid (Uz' w (w2.alloc (.cells #[.string lp, .int .i64 lt, .bool true] 86)) w.heap.size S xw m (j + 1) (k + 1) (Value.slice (some ⟨bb, bo, none⟩) nB cB) B vL L) := (HZq.out.below HB2.out).below ((Below.refl _ _).alloc (Nat.le_refl _) _)
         have HB3 : Hid (Below wq.heap.size wq (w2.alloc (.cells #[.string lp, .int .i64 lt, .bool true] 86))) := bel HB2.out ((Below.refl _ _).alloc (Nat.le_refl _) _)
         have HXB : Hid ((w2.alloc (.cells #[.string lp, .int .i64 lt, .bool true] 86)).heap[w2.heap.size]? = some (.cells #[.string lp, .int .i64 lt, .bool true] 86)) := heap_alloc_new w2 _
         have HOQ : Hid (Six2 (w2.alloc (.cells #[.string lp, .int .i64 lt, .bool true] 86)) q 2 lp) := ⟨o2a _, o3a _⟩
         have x0 := blk_cell HXB.out (i := 0) (u := .string lp) rfl
         have x1 := blk_cell HXB.out (i := 1) (u := .int .i64 lt) rfl
         have x2 := blk_cell HXB.out (i := 2) (u := .bool true) rfl
         have C1 : ∀ i, Calls Tryz.prog 34 #[.slice (some ⟨ob, oo, none⟩) no co, .string lp] ((w2.alloc (.cells #[.string lp, .int .i64 lt, .bool true] 86)).drewN i) fun e w' => e = .returned (.int .i64 (cnt S.ops lp)) ∧ w' = ((w2.alloc (.cells #[.string lp, .int .i64 lt, .bool true] 86)).drewN i) := fun i => Bb.strikes_ref _ S.ops lp _ (HP.out.ops _ (bel HZ3.out.bel (bel_drew (Below.refl _ _) i))) (by have := HI.out.few; omega)
         obtain ⟨pr, nr, cr, rfl, _⟩ := own_shape HZ3.out.mkr.row
         have C2 : ∀ i, Calls Tryz.prog 34 #[.slice pr nr cr, .string lp] ((w2.alloc (.cells #[.string lp, .int .i64 lt, .bool true] 86)).drewN i) fun e w' => e = .returned (.int .i64 (cnt (L.map (·.1)) lp)) ∧ w' = ((w2.alloc (.cells #[.string lp, .int .i64 lt, .bool true] 86)).drewN i) := fun i => Bb.strikes_ref _ (L.map (·.1)) lp _ ((HZ3.out.below (bel_drew (Below.refl _ _) i)).mkr.opsJ.at) (by rw [List.length_map]; have := HZ3.out.ln; omega)
         have m2 := blk_cell HZ3.out.mkr.blk (i := 2) (u := .slice pr nr cr) rfl
         have e3 := HP.out.c3 _ HZ3.out.bel
         have hcs : cnt S.ops lp ≤ 400 := Nat.le_trans (cnt_le _ _) HI.out.few
         have hcl : cnt (L.map (·.1)) lp ≤ 200 := by have h1 := cnt_le (L.map (·.1)) lp; rw [List.length_map] at h1; have := HZ3.out.ln; omega
         have hsw : IntKind.i64.wrap ((cnt S.ops lp : Int) + (cnt (L.map (·.1)) lp : Int)) = (cnt S.ops lp : Int) + (cnt (L.map (·.1)) lp : Int) := wrap_in (by omega) (by omega)
         have hsb : ((cnt S.ops lp : Int) + (cnt (L.map (·.1)) lp : Int) == 1) = false := by rw [beq_eq_false_iff_ne]; omega
         generalize (cnt S.ops lp : Int) = za at C1 hsw hsb
         generalize (cnt (L.map (·.1)) lp : Int) = zb at C2 hsw hsb
         clear HSK HK hcs hcl hsum
         go_wp2_with fail
         generalize hw3 : w2.alloc _ = w3 at HZ3 HB3 HXB HOQ m2 e3 C1 C2 x0 x1 x2 ⊢
         clear hw3 o2a o3a f0 f1 f2 o2 o3 HF2 HO2 HZq hcb hin x0 x1
         obtain ⟨o2, o3⟩ := HOQ.out
         generalize w2.heap.size = xb at HXB x2 ⊢
         go_quiet (first | with_reducible exact Calls.quiet_of_same (C1 _) | with_reducible exact Calls.quiet_of_same (C2 _))
         clear C1 C2
         generalize hw4 : World.drewN _ _ = w4
         have HBE : Hid (Below wq.heap.size wq w4) := by rw [Hid, ← hw4]; exact bel_drew HB3.out _
         clear hw4
         have HS2 := HS.out w4 HBE.out
         go_wp2_with fail
         go_roundw
         case rel => exact ⟨j, k + 1, B, _, L, rfl, rfl, by omega, HS2⟩
         case measure => first | (simp [intOf]; done) | (simp [intOf]; omega)
      ·have t2b : (t == 2) = false := by simpa using ht2
       have HS : Hid (∀ W, Below wq.heap.size wq W → Uz' w W w.heap.size S xw m j (k + 1) (Value.slice (some ⟨bb, bo, none⟩) nB cB) B vL L) := HSK.out (by rw [HK.out, if_neg (fun e => ht1 e.1), if_neg (fun e => ht2 e.1)])
       have HZ3 : Hid (Uz' w (w2.alloc (.cells #[.string lp, .int .i64 lt, .bool ls] 86)) w.heap.size S xw m (j + 1) (k + 1) (Value.slice (some ⟨bb, bo, none⟩) nB cB) B vL L) := (HZq.out.below HB2.out).below ((Below.refl _ _).alloc (Nat.le_refl _) _)
       have HB3 : Hid (Below wq.heap.size wq (w2.alloc (.cells #[.string lp, .int .i64 lt, .bool ls] 86))) := bel HB2.out ((Below.refl _ _).alloc (Nat.le_refl _) _)
       have HXB : Hid ((w2.alloc (.cells #[.string lp, .int .i64 lt, .bool ls] 86)).heap[w2.heap.size]? = some (.cells #[.string lp, .int .i64 lt, .bool ls] 86)) := heap_alloc_new w2 _
       have HOQ : Hid (Six2 (w2.alloc (.cells #[.string lp, .int .i64 lt, .bool ls] 86)) q t lp) := ⟨o2a _, o3a _⟩
       have x0 := blk_cell HXB.out (i := 0) (u := .string lp) rfl
       have x1 := blk_cell HXB.out (i := 1) (u := .int .i64 lt) rfl
       have x2 := blk_cell HXB.out (i := 2) (u := .bool ls) rfl
       clear HSK HK
       go_wp2_with fail
       go_quiet (fail)
       generalize hw4 : World.drewN _ _ = w4
       have HBE : Hid (Below wq.heap.size wq w4) := by rw [Hid, ← hw4]; exact bel_drew HB3.out _
       clear hw4
       have HS2 := HS.out w4 HBE.out
       go_wp2_with fail
       go_roundw
       case rel => exact ⟨j, k + 1, B, _, L, rfl, rfl, by omega, HS2⟩
       case measure => first | (simp [intOf]; done) | (simp [intOf]; omega)
end Be
end Go.Proofs.YtnbnniapllkjlaaGreatDoor
