import Derived.Test.YtlhdoohikpcbjaaGreatDoorJ13
import Derived.Test.YtlhdoohikpcbjaaGreatDoorJ6
import Derived.Test.YtlhdoohikpcbjaaGreatDoorJ7
import Derived.Deep.Strs
import Derived.ChangeSame
import Derived.ChangeOld
import Derived.Carry
import Derived.Test.YtlhdoohikpcbjaaGreatDoorJ9
import Derived.Test.YtlhdoohikpcbjaaGreatDoorU0
set_option linter.unusedVariables false
namespace Go.Proofs.YtlhdoohikpcbjaaGreatDoor
namespace Iq
open Go.ChangeShapes Go.WideShapes Go.ChangeAt Go.RowKit Cm Ka Kb Na Om Oa Oz Oc Og Oi Hm Ia Ib Ic Idc Ie If Ig Ih Ii Ij Ik Il Im
open La (bel bel_drew errV_zero errV_ne own_ge own_grow own_below Lies)
open Lj (BookAt BookNew)
def nb : ByteArray := ⟨#[110, 98]⟩
def run (l : List Ox) (k : Nat) : Dq := (l.take k).foldl apS d0
theorem run_next {l : List Ox} {k : Nat} (hk : k < l.length) : run l (k + 1) = apS (run l k) (l.getD k oz) := by
 unfold run; rw [Im.take_next hk, List.foldl_append]; rfl
theorem run_inv (l : List Ox) (k : Nat) : Inv (run l k) := by
 unfold run
 generalize l.take k = m
 suffices h : ∀ (m : List Ox) (S : Dq), Inv S → Inv (m.foldl apS S) from h m d0 inv_zero
 intro m
 induction m with
 | nil => intro S h; exact h
 | cons o m ih => intro S h; exact ih _ (inv_ap h)
theorem ops_new {S : Dq} {o : Ox} (h : isNew S o = true) : (apS S o).ops = S.ops ++ [o] := by unfold apS; rw [h, if_pos rfl]; rfl
structure MT (S T : Dq) (L : List Ox) : Prop where
 inv : Inv T
 perm : (T.ops ++ L).Perm S.ops
 seq : Seq (fun w => kn T w) L
 right : ∀ o ∈ L, opE o = 0
 few : S.ops.length ≤ 400
theorem MT.all {S T : Dq} (I : Inv S) (h : MT S T []) : S.book = T.book ∧ S.marks = T.marks ∧ S.known = T.known := by
 have := h.perm
 rw [List.append_nil] at this
 exact meet I h.inv this.symm
def RowL (B : Nat) (w : World) (v : Value) (L : List (Ox × Value)) : Prop := w.ownsRow B 48 6 v L.length (flatO L)
theorem RowL.six {B : Nat} {w : World} {g n c : Nat} {L : List (Ox × Value)} (h : RowL B w (.slice (some ⟨g, 0, none⟩) n c) L) {j : Nat} {y : Ox × Value} (hj : L[j]? = some y) : ∀ i u, (six y.1 y.2)[i]? = some u → w.cell? ⟨g, j * 6 + i, none⟩ = some u := by
 intro i u hu
 have hl : L.length = n := by
  rcases h.2 with ⟨e, _⟩ | ⟨g2, cap, cur, e, _⟩
  ·cases e
  ·injection e with _ e _; exact e.symm
 have h2 : w.ownsRow B 48 6 (.slice (some ⟨g, 0, none⟩) n c) n (flatO L) := by unfold RowL at h; rw [hl] at h; exact h
 have := h2.cells (g := g) rfl (j * 6 + i) u (flatO_at hj i u hu)
 rw [Addr.add_lit, Nat.zero_add] at this
 exact this
theorem RowL.shape {B : Nat} {w : World} {v : Value} {L : List (Ox × Value)} (h : RowL B w v L) : (v = .slice none 0 0 ∧ L = []) ∨ ∃ g c, v = .slice (some ⟨g, 0, none⟩) L.length c ∧ B ≤ g ∧ L.length ≤ c ∧ c ≤ maxLen := by
 rcases h.2 with ⟨e, e0⟩ | ⟨g, cap, cur, e, h1, _, h3, h4, _⟩
 ·exact Or.inl ⟨e, List.eq_nil_of_length_eq_zero e0⟩
 ·exact Or.inr ⟨g, cap, e, h1, h3, h4⟩
theorem flatO_one (L : List (Ox × Value)) (h : ∀ y ∈ L, ∃ p n c, y.2 = .slice p n c) : ∀ u ∈ flatO L, u.oneCell' = true := by
 intro u hu
 unfold flatO at hu
 obtain ⟨y, hy, hu⟩ := List.mem_flatMap.1 hu
 obtain ⟨p, n, c, e⟩ := h y hy
 simp only [six, List.mem_cons, List.not_mem_nil, or_false] at hu
 rcases hu with rfl | rfl | rfl | rfl | rfl | rfl
 ·rfl
 ·rfl
 ·rfl
 ·rfl
 ·rfl
 ·rw [e]; rfl
theorem off_old {w : World} {v : Value} {l : List Dt} {F : Nat → Prop} (h : DtsAt w v l) (hF : ∀ g, F g → w.heap.size ≤ g) : In (fun g => ¬ F g) v := fun a n c e hn hf => by
 obtain ⟨q, c2, hv, hin, _⟩ := h
 rw [e] at hv
 injection hv with e1 e2 e3
 rcases hin with e0 | ⟨bb, oo, hp9, hcs⟩
 ·rw [e0] at e2; simp at e2; omega
 ·rw [hp9] at e1
  injection e1 with e1
  rw [e1] at hf
  have := hF _ hf
  have := (hcs 0 (by omega)).lt
  simp only at *
  omega
end Iq
namespace Oo
open Go.ChangeShapes Go.WideShapes Go.ChangeAt Go.RowKit Cm Ka Kb Na Om Oa Oz
theorem laidOut : laidOutB Tryz.prog = true := by kernel_rfl
theorem cellsO : Tryz.prog.cellsOf 48 = 6 := by kernel_rfl
theorem cellsD : Tryz.prog.cellsOf 45 = 2 := by kernel_rfl
theorem cellsL : Tryz.prog.cellsOf 46 = 1 := by kernel_rfl
theorem cellsS : Tryz.prog.cellsOf 9 = 1 := by kernel_rfl
theorem cellsI : Tryz.prog.cellsOf 3 = 1 := by kernel_rfl
theorem trod_struct5 {H : Type} {enc : TypeId × Value → H} {W : World} {base : Nat} {spare : Nat → Bool} {held : Bool} {t : TypeId} {f0 f1 f2 f3 f4 : Field} {fuel : Nat} {cs : List Value} {x : DataW H × List MemPlace} (ht : Tryz.prog.underlying t = some (.struct #[f0, f1, f2, f3, f4])) (h : DataW.trod enc Tryz.prog W base spare held fuel t cs = some x) :
  ∃ y0 y1 y2 y3 y4 n, cs.length = Tryz.prog.cellsOf t ∧ DataW.trod enc Tryz.prog W base spare held n f0.type ((cs.drop f0.offset).take (Tryz.prog.cellsOf f0.type)) = some y0 ∧
   DataW.trod enc Tryz.prog W base spare held n f1.type ((cs.drop f1.offset).take (Tryz.prog.cellsOf f1.type)) = some y1 ∧ DataW.trod enc Tryz.prog W base spare held n f2.type ((cs.drop f2.offset).take (Tryz.prog.cellsOf f2.type)) = some y2 ∧
   DataW.trod enc Tryz.prog W base spare held n f3.type ((cs.drop f3.offset).take (Tryz.prog.cellsOf f3.type)) = some y3 ∧ DataW.trod enc Tryz.prog W base spare held n f4.type ((cs.drop f4.offset).take (Tryz.prog.cellsOf f4.type)) = some y4 := by
 obtain ⟨xs, n, _, rfl, hl, hlen, hf⟩ := DataW.trod_struct ht h
 match xs, hlen with
 | [y0, y1, y2, y3, y4], _ => exact ⟨y0, y1, y2, y3, y4, n, hl, by simpa using hf 0 f0 rfl, by simpa using hf 1 f1 rfl, by simpa using hf 2 f2 rfl, by simpa using hf 3 f3 rfl, by simpa using hf 4 f4 rfl⟩
set_option maxRecDepth 100000 in
theorem open_dot {H : Type} {enc : TypeId × Value → H} {W : World} {base fuel : Nat} {spare : Nat → Bool} {held : Bool} {cs : List Value} {x : DataW H × List MemPlace} (h : DataW.trod enc Tryz.prog W base spare held fuel 45 cs = some x) :
  ∃ y : Dt, cs = [.int .i64 y.1, .int .i64 y.2] := by
 obtain ⟨y0, y1, n, _, hl, h0, h1⟩ := ChangeShapes.trod_struct2 Tryz.underlying45 h
 rw [cellsD] at hl
 match cs, hl with
 | [c0, c1], _ =>
  simp only [cellsI, List.drop_zero, List.drop_succ_cons, List.take_succ_cons, List.take_zero] at h0 h1
  obtain ⟨m, e0, _, _⟩ := DataW.trod_int Tryz.underlying3 h0
  obtain ⟨k, e1, _, _⟩ := DataW.trod_int Tryz.underlying3 h1
  simp only [List.cons.injEq, and_true] at e0 e1
  subst e0 e1
  exact ⟨(m, k), rfl⟩
set_option maxRecDepth 100000 in
theorem open_seen {H : Type} {enc : TypeId × Value → H} {W : World} {base fuel : Nat} {held : Bool} {v : Value} {x : DataW H × List MemPlace} (h : DataW.trod enc Tryz.prog W base (fun _ => true) held fuel 46 [v] = some x) :
  ∃ l, DtsAt W v l := by
 rcases Deep.open_slice Tryz.underlying46 h with ⟨hcs, _⟩ | ⟨a, len, cap, m, n, D, Pl, hcs, _, hl, hm, hmm, hx, hel⟩
 ·simp only [List.cons.injEq, and_true] at hcs
  subst hcs
  exact ⟨[], DtsAt.nil W⟩
 ·simp only [List.cons.injEq, and_true] at hcs
  subst hcs
  simp at hmm
  have each : ∀ i, i < len → ∃ y : Dt, W.cell? (a.add (i * 2)) = some (.int .i64 y.1) ∧ W.cell? (a.add (i * 2 + 1)) = some (.int .i64 y.2) := by
   intro i hi
   obtain ⟨cs', h1, h2⟩ := hel i (by omega)
   rw [cellsD] at h1
   obtain ⟨y, rfl⟩ := open_dot h2
   obtain ⟨_, _, hc⟩ := World.cells?_some h1
   refine ⟨y, ?_, ?_⟩
   ·have := hc 0 (by omega); rw [Deep.add_add, Nat.add_zero] at this; exact this
   ·have := hc 1 (by omega); rw [Deep.add_add] at this; exact this
  obtain ⟨X, hX⟩ := Deep.choose_lt (α := Dt) each
  have hlen : ((List.range len).map X).length = len := by simp
  refine ⟨(List.range len).map X, ⟨some a, cap, by rw [hlen], ?_, by rw [hlen]; exact hl, hm, fun h => by cases h⟩⟩
  ·by_cases h0 : len = 0
   ·left; rw [h0]; rfl
   ·right
    obtain ⟨b, off, spot⟩ := a
    have hc0 := (hX 0 (by omega)).1
    have hspot : spot = none := by simpa [Addr.add] using World.cell?_spot hc0
    subst hspot
    refine ⟨b, off, rfl, fun j hj => ?_⟩
    rw [hlen] at hj
    have e : ((List.range len).map X).getD j noneD = X j := by
     rw [List.getD_eq_getElem?_getD, List.getElem?_map, List.getElem?_range hj]; rfl
    rw [e]
    obtain ⟨h1, h2⟩ := hX j hj
    rw [Addr.add_lit] at h1 h2
    exact ⟨h1, h2⟩
set_option maxRecDepth 100000 in
theorem open_opc {H : Type} {enc : TypeId × Value → H} {W : World} {base fuel : Nat} {held : Bool} {cs : List Value} {x : DataW H × List MemPlace} (h : DataW.trod enc Tryz.prog W base (fun _ => true) held fuel 48 cs = some x) :
  ∃ (y : Ox) (v : Value), cs = six y v ∧ DtsAt W v y.2.2.2.2 ∧ y.2.2.1.size ≤ maxLen := by
 obtain ⟨y0, y1, y2, y3, y4, n, hl, h0, h1, h2, h3, h4⟩ := trod_struct5 Tryz.underlying48 h
 rw [cellsO] at hl
 match cs, hl with
 | [c0, c1, c2, c3, c4, c5], _ =>
  simp only [cellsS, cellsD, cellsI, cellsL, List.drop_zero, List.drop_succ_cons, List.take_succ_cons, List.take_zero] at h0 h1 h2 h3 h4
  obtain ⟨d, e0⟩ := open_dot h0
  obtain ⟨t, e1, _, _⟩ := DataW.trod_int Tryz.underlying3 h1
  obtain ⟨s, e2, _, hs⟩ := DataW.trod_string Tryz.underlying9 h2
  obtain ⟨c, e3, _, _⟩ := DataW.trod_int Tryz.underlying3 h3
  obtain ⟨l, hd⟩ := open_seen h4
  simp only [List.cons.injEq, and_true] at e0 e1 e2 e3
  obtain ⟨e0, e0'⟩ := e0
  subst e0 e0' e1 e2 e3
  exact ⟨(d, t, s, c, l), c5, rfl, hd, hs⟩
set_option maxRecDepth 100000 in
theorem open_ops {H : Type} {enc : TypeId × Value → H} {W : World} {base : Nat} {v : Value} {d : DataW H} {ps : List MemPlace}
  (hv : Value.okWide Tryz.prog W .any base 22 v) (h : DataW.Trod enc Tryz.prog W 0 (fun _ => true) true 22 v d ps) :
  ∃ l, OpsAt W v l ∧ ∀ x ∈ l, x.2.2.1.size ≤ maxLen := by
 obtain ⟨a0, len0, cap0, rfl⟩ := okWide_slice Tryz.underlying22 hv
 obtain ⟨fuel, hf⟩ := h
 rcases Deep.open_slice Tryz.underlying22 hf with ⟨hcs, _⟩ | ⟨a, len, cap, m, n, D, Pl, hcs, _, hl, hm, hmm, hx, hel⟩
 ·simp [Value.cells] at hcs
  obtain ⟨rfl, rfl, rfl⟩ := hcs
  exact ⟨[], OpsAt.nil W, by intro x hx; simp at hx⟩
 ·simp [Value.cells] at hcs
  obtain ⟨rfl, rfl, rfl⟩ := hcs
  simp at hmm
  have each : ∀ i, i < len0 → ∃ y : Ox × Value, (W.cell? (a.add (i * 6)) = some (.int .i64 y.1.1.1) ∧ W.cell? (a.add (i * 6 + 1)) = some (.int .i64 y.1.1.2) ∧ W.cell? (a.add (i * 6 + 2)) = some (.int .i64 y.1.2.1) ∧ W.cell? (a.add (i * 6 + 3)) = some (.string y.1.2.2.1) ∧ W.cell? (a.add (i * 6 + 4)) = some (.int .i64 y.1.2.2.2.1) ∧ W.cell? (a.add (i * 6 + 5)) = some y.2) ∧ DtsAt W y.2 y.1.2.2.2.2 ∧ y.1.2.2.1.size ≤ maxLen := by
   intro i hi
   obtain ⟨cs', h1, h2⟩ := hel i (by omega)
   rw [cellsO] at h1
   obtain ⟨y, u, rfl, hd, hs⟩ := open_opc h2
   obtain ⟨_, _, hc⟩ := World.cells?_some h1
   refine ⟨(y, u), ⟨?_, ?_, ?_, ?_, ?_, ?_⟩, hd, hs⟩
   ·have := hc 0 (by omega); rw [Deep.add_add, Nat.add_zero] at this; exact this
   ·have := hc 1 (by omega); rw [Deep.add_add] at this; exact this
   ·have := hc 2 (by omega); rw [Deep.add_add] at this; exact this
   ·have := hc 3 (by omega); rw [Deep.add_add] at this; exact this
   ·have := hc 4 (by omega); rw [Deep.add_add] at this; exact this
   ·have := hc 5 (by omega); rw [Deep.add_add] at this; exact this
  obtain ⟨X, hX⟩ := Deep.choose_lt (α := Ox × Value) each
  have hlen : ((List.range len0).map fun i => (X i).1).length = len0 := by simp
  refine ⟨(List.range len0).map fun i => (X i).1, ⟨some a, cap0, by rw [hlen], ?_, by rw [hlen]; exact hl, hm, fun h => by cases h⟩, ?_⟩
  ·by_cases h0 : len0 = 0
   ·left; rw [h0]; rfl
   ·right
    obtain ⟨b, off, spot⟩ := a
    have hc0 := (hX 0 (by omega)).1.1
    have hspot : spot = none := by simpa [Addr.add] using World.cell?_spot hc0
    subst hspot
    refine ⟨b, off, rfl, fun j hj => ?_⟩
    rw [hlen] at hj
    have e : ((List.range len0).map fun i => (X i).1).getD j oz = (X j).1 := by
     rw [List.getD_eq_getElem?_getD, List.getElem?_map, List.getElem?_range hj]; rfl
    rw [e]
    obtain ⟨⟨h1, h2, h3, h4, h5, h6⟩, hd, _⟩ := hX j hj
    rw [Addr.add_lit] at h1 h2 h3 h4 h5 h6
    exact ⟨(X j).2, ⟨h1, h2, h3, h4, h5, h6⟩, hd⟩
  ·intro x hx
   obtain ⟨j, hj, rfl⟩ := List.mem_map.1 hx
   exact (hX j (List.mem_range.1 hj)).2.2
end Oo
namespace Ja
open Cm Om Hm
structure Pre (S T : Dq) (L R : List Ox) : Prop where
 invS : Inv S
 ordS : Ord S
 inv : Inv T
 ord : Ord T
 perm : (T.ops ++ (L ++ R)).Perm S.ops
 few : S.ops.length ≤ 60
theorem Pre.mem {S T : Dq} {L R : List Ox} (h : Pre S T L R) {o : Ox} (ho : o ∈ L ∨ o ∈ R) : o ∈ S.ops ∧ opE o = 0 ∧ (1 ≤ o.1.1 ∧ o.1.1 ≤ 8) ∧ 1 ≤ o.1.2 := by
 have hm : o ∈ S.ops := h.perm.mem_iff.1 (List.mem_append_right _ (List.mem_append.2 ho))
 have h0 := h.invS.right o hm
 obtain ⟨d1, d2, d3, d4⟩ := dotE_iff.1 (opE_zero.1 h0).1
 exact ⟨hm, h0, ⟨d1, d2⟩, d3⟩
theorem Pre.clash {S T : Dq} {L R : List Ox} (h : Pre S T L R) {o : Ox} (ho : o ∈ L) : doE T o ≠ 7 := by
 obtain ⟨hm, h0, _, _⟩ := h.mem (Or.inl ho)
 intro h7
 obtain ⟨e1, e2, e3, e4⟩ := opE_zero.1 h0
 have hw : Bm.withE T.book o.2.2.1 = 0 := Bm.withE_zero.2 ⟨h.inv.book, e3⟩
 have hp : Bm.putE T.book o.2.2.1 ≠ 7 := by unfold Bm.putE; split <;> simp
 unfold doE at h7
 by_cases t1 : o.2.1 = 1
 ·rw [if_pos t1] at h7
  unfold Bm.writeE Bm.wrE at h7
  have hl := (lawOf_zero.1 e4).1 t1
  have hL : Bm.isL o.2.2.2.1 = true := by unfold Bm.isL; simp; omega
  rw [if_neg (by simpa using hw), if_neg (by rw [hL]; decide)] at h7
  by_cases hc : Bm.clash (Bm.leafAt T.book o.2.2.1) o.2.2.2.1 = true
  ·unfold Bm.clash at hc
   simp only [Bool.and_eq_true, bne_iff_ne, ne_eq] at hc
   obtain ⟨x, hx, x1, x2⟩ := h.inv.wr' _ hc.1
   have q1 := h.inv.wr x hx x1
   have q2 := h.invS.wr x (h.perm.mem_iff.1 (List.mem_append_left _ hx)) x1
   have q3 := h.invS.wr o hm t1
   rw [x2] at q1 q2
   exact hc.2 (by rw [q1, ← q2, q3])
  ·rw [if_neg hc] at h7; exact hp h7
 ·rw [if_neg t1] at h7
  by_cases t2 : o.2.1 = 2
  ·rw [if_pos t2] at h7
   unfold Bm.strikeE at h7
   rw [if_neg (by simpa using hw)] at h7
   exact hp h7
  ·rw [if_neg t2] at h7
   split at h7
   ·split at h7
    ·cases h7
    ·unfold withM at h7
     split at h7
     ·cases h7
     ·split at h7
      ·cases h7
      ·cases h7
   ·cases h7
theorem Pre.all {S T : Dq} (h : Pre S T [] []) : S.book = T.book ∧ S.marks = T.marks ∧ S.known = T.known ∧ T.ops.length = S.ops.length := by
 have hp := h.perm
 rw [List.append_nil, List.append_nil] at hp
 obtain ⟨h1, h2, h3⟩ := meet h.invS h.inv hp.symm
 exact ⟨h1, h2, h3, hp.length_eq⟩
end Ja
namespace Aa
open Cm Om Hm Um
theorem stands : True := trivial
end Aa
namespace Ab
open Cm Om Hm Um Aa
theorem stands : True := trivial
end Ab
end Go.Proofs.YtlhdoohikpcbjaaGreatDoor
