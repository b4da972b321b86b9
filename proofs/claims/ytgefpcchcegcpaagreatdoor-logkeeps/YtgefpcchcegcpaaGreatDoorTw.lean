/- LogKeeps' walk stands on this: a log and the docs beside it, step by step. -/
import Derived.Test.YtgefpcchcegcpaaGreatDoorTn
import Derived.Test.YtgefpcchcegcpaaGreatDoorTi
import Derived.Test.YtgefpcchcegcpaaGreatDoorXs
import Derived.Test.YtgefpcchcegcpaaGreatDoorJ14
import Derived.Deep.DeepCutAuto
import Derived.Deep.CutBlock
import Derived.Deep.CutRange
import Derived.Deep.RegionHeld3
namespace Go.Proofs.YtgefpcchcegcpaaGreatDoor
namespace Tw
set_option linter.unusedVariables false
set_option linter.unusedSimpArgs false
open Go.ChangeShapes Go.WideShapes Go.ChangeAt Go.RowKit Cm Ka Kb Na Om Oa Oz Oc Og Oi Hm Ia Ic Idc Ie If Ig Ih Ii Ij Ik Il Tg Th Tm Tn Xp Xq Kt Kl
open La (bel_drew errV_zero errV_ne own_ge own_grow own_below Lies LeafsIn)
open Lj (BookAt)
open Ti (put_bare dts_nil)

theorem Hid.mk' {p : Prop} (h : p) : Hid p := h
/- a log and the docs beside it -/
structure Kn (L : LogSays) (w wr : World) (X : Nat) (s : Lg) (F G : Nat → Prop) (Es : List Nat) (gd cd gm cm q : Nat) : Prop where
  log : L.At wr X s F
  low : ∀ g, F g → w.heap.size ≤ g
  qe : q = s.ops.length + 1
  dn : Dn w wr s.ops s.ends F G Es (.slice (some ⟨gd, 0, none⟩) q cd) (.slice (some ⟨gm, 0, none⟩) q cm)
def Bd (s : Lg) (n : Nat) : Prop := s.bytes ≤ 100000 * n ∧ s.ops.length ≤ n ∧ n ≤ 40
theorem Bd.fit {s : Lg} {n : Nat} (h : Bd s n) : Fit s := ⟨by have := h.1; have := h.2.2; omega, by have := h.2.1; have := h.2.2; omega⟩
section
variable {L : LogSays} {w wr w' : World} {X : Nat} {s s' : Lg} {F G : Nat → Prop} {Es : List Nat} {gd cd gm cm q : Nat}
theorem Kn.below (h : Kn L w wr X s F G Es gd cd gm cm q) (hb : Below wr.heap.size wr w') : Kn L w w' X s F G Es gd cd gm cm q := ⟨L.below h.log hb, h.low, h.qe, h.dn.below hb⟩
theorem Kn.set (h : Kn L w wr X s F G Es gd cd gm cm q) (hl : ∃ F', L.At w' X s' F' ∧ Chg F wr w' ∧ ∀ g, F' g → F g ∨ wr.heap.size ≤ g) (ho : s'.ops = s.ops) (he : s'.ends = s.ends) : ∃ F', Kn L w w' X s' F' G Es gd cd gm cm q := by
  obtain ⟨F', h1, h2, h3⟩ := hl
  refine ⟨F', h1, fun g e => ?_, by rw [ho]; exact h.qe, by rw [ho, he]; exact h.dn.log h2 h.low h3⟩
  rcases h3 g e with e | e
  · exact h.low g e
  · have := h.dn.bel.size; omega
theorem Kn.bel (h : Kn L w wr X s F G Es gd cd gm cm q) : Below w.heap.size w wr := h.dn.bel
/- what a Put that came in between leaves, seen from the docs alone -/
theorem Kn.put (h : Kn L w wr X s F G Es gd cd gm cm q) {F' : Nat → Prop} (h1 : L.At w' X s' F') (h2 : Chg F wr w') (h3 : ∀ g, F' g → F g ∨ wr.heap.size ≤ g) : Dn w w' s.ops s.ends F' G Es (.slice (some ⟨gd, 0, none⟩) q cd) (.slice (some ⟨gm, 0, none⟩) q cm) ∧ ∀ g, F' g → w.heap.size ≤ g := by
  refine ⟨h.dn.log h2 h.low h3, fun g e => ?_⟩
  rcases h3 g e with e | e
  · exact h.low g e
  · have := h.dn.bel.size; omega
end
theorem row_cell {w : World} {base : Nat} {t : TypeId} {g n c : Nat} {xs : List Value} (h : w.ownsRow base t 1 (.slice (some ⟨g, 0, none⟩) n c) n xs) {j : Nat} {u : Value} (hu : xs[j]? = some u) : w.cell? ⟨g, j, none⟩ = some u := by
  have h9 := h.cells (g := g) rfl j u hu
  rwa [Addr.add_lit, Nat.zero_add] at h9
theorem ptr_at {Es : List Nat} {i : Nat} (h : i < Es.length) : (ptrs Es)[i]? = some (.pointer (some ⟨Es.getD i 0, 0, none⟩)) := by
  unfold ptrs; rw [List.getElem?_map, List.getElem?_eq_getElem h, List.getD_eq_getElem?_getD, List.getElem?_eq_getElem h]; rfl
theorem num_at {l : List Nat} {i : Nat} (h : i < l.length) : (nums l)[i]? = some (.int .i64 (l.getD i 0 : Int)) := by
  unfold nums; rw [List.getElem?_map, List.getElem?_eq_getElem h, List.getD_eq_getElem?_getD, List.getElem?_eq_getElem h]; rfl
/- the parts of one of the reference's docs -/
theorem ref_parts {P : Nat → Prop} {w : World} {E : Nat} {S : Dq} {F : Nat → Prop} (h : RefAt P w E S F) : ∃ pb nb cb pm nm cm gk, ∀ W : World, Below w.heap.size w W → W.cell? ⟨E, 0, none⟩ = some (.slice pb nb cb) ∧ BookAt W (.slice pb nb cb) S.book ∧ W.cell? ⟨E, 1, none⟩ = some (.slice pm nm cm) ∧ MksAt W (.slice pm nm cm) S.marks ∧ W.cell? ⟨E, 2, none⟩ = some (.slice (some ⟨gk, 0, none⟩) 8 8) ∧ Za.IntsIn W (some ⟨gk, 0, none⟩) S.known := by
  obtain ⟨I, gk, vb, vm, vo, hm⟩ := h
  obtain ⟨pb, nb, cb, hvb⟩ : ∃ p n c, vb = .slice p n c := by obtain ⟨p, c, e, _⟩ := hm.book; exact ⟨_, _, _, e⟩
  obtain ⟨pm, nm, cm, hvm⟩ : ∃ p n c, vm = .slice p n c := by obtain ⟨p, c, e, _⟩ := hm.marks; exact ⟨_, _, _, e⟩
  subst hvb hvm
  obtain ⟨cur, k1, k2⟩ := hm.kn
  refine ⟨pb, nb, cb, pm, nm, cm, gk, fun W hb => ⟨keep_cell hb (blk_cell hm.blk (i := 0) rfl), hm.book.below hb, keep_cell hb (blk_cell hm.blk (i := 1) rfl), hm.marks.below hb, keep_cell hb (blk_cell hm.blk (i := 2) rfl), Or.inr ⟨gk, 0, rfl, fun j hj => ?_⟩⟩⟩
  rw [Nat.zero_add]
  refine keep_cell hb (blk_cell k1 (i := j) ?_)
  have h9 : cur.toList[j]? = some (.int .i64 (S.known.getD j 0)) := by rw [k2, List.getElem?_map, List.getElem?_eq_getElem hj, List.getD_eq_getElem?_getD, List.getElem?_eq_getElem hj]; rfl
  simpa using h9
/- a doc that is no one of these yet -/
structure Nx (w wx : World) (F G : Nat → Prop) (vd vm : Value) (E : Nat) (S : Dq) (Fn : Nat → Prop) : Prop where
  ref : RefAt (Old w) wx E S Fn
  off : ∀ g, Fn g → w.heap.size ≤ g ∧ ¬ F g ∧ ¬ G g ∧ vd.ownBlock ≠ some g ∧ vm.ownBlock ≠ some g
section
variable {L : LogSays} {w wr w' : World} {X : Nat} {s s' : Lg} {F G Fn Fm : Nat → Prop} {Es : List Nat} {gd cd gm cm q E : Nat} {S S' : Dq}
abbrev rowD (gd q cd : Nat) : Value := .slice (some ⟨gd, 0, none⟩) q cd
theorem Kn.nx (h : Kn L w wr X s F G Es gd cd gm cm q) (hr : RefAt (Old w) w' E S Fn) (hf : ∀ g, Fn g → wr.heap.size ≤ g) : Nx w w' F G (rowD gd q cd) (rowD gm q cm) E S Fn := by
  have hz := h.dn.bel.size
  refine ⟨hr, fun g e => ?_⟩
  have h1 := hf g e
  exact ⟨by omega, fun e9 => by have := L.lt h.log g e9; omega, fun e9 => by have := (h.dn.gs g e9).2.1; omega, fun e9 => by have := (own_lt h.dn.rd g e9).1; omega, fun e9 => by have := (own_lt h.dn.rm g e9).1; omega⟩
theorem Nx.below {vd vm : Value} (h : Nx w wr F G vd vm E S Fn) (hb : Below wr.heap.size wr w') : Nx w w' F G vd vm E S Fn := ⟨h.ref.below hb, h.off⟩
/- it is written -/
theorem Nx.apply {vd vm : Value} (h : Nx w wr F G vd vm E S Fn) (hF : ∀ g, F g → g < wr.heap.size) (hG : ∀ g, G g → g < wr.heap.size) (hv : ∀ g, (vd.ownBlock = some g ∨ vm.ownBlock = some g) → g < wr.heap.size) (hbel : w.heap.size ≤ wr.heap.size) (hr : RefAt (Old w) w' E S' Fm) (hf : ∀ g, Fm g → Fn g ∨ wr.heap.size ≤ g) : Nx w w' F G vd vm E S' Fm := by
  refine ⟨hr, fun g e => ?_⟩
  rcases hf g e with e | e
  · exact h.off g e
  · exact ⟨by omega, fun e9 => by have := hF g e9; omega, fun e9 => by have := hG g e9; omega, fun e9 => by have := hv g (Or.inl e9); omega, fun e9 => by have := hv g (Or.inr e9); omega⟩
theorem Kn.apply (h : Kn L w wr X s F G Es gd cd gm cm q) (hn : Nx w wr F G (rowD gd q cd) (rowD gm q cm) E S Fn) (hc : Chg Fn wr w') : Kn L w w' X s F G Es gd cd gm cm q :=
  ⟨L.chg h.log hc (fun g e1 e2 => (hn.off g e2).2.1 e1), h.low, h.qe, h.dn.next hc (fun g e => ⟨(hn.off g e).1, (hn.off g e).2.2⟩)⟩
theorem Kn.lts (h : Kn L w wr X s F G Es gd cd gm cm q) : (∀ g, F g → g < wr.heap.size) ∧ (∀ g, G g → g < wr.heap.size) ∧ (∀ g, ((rowD gd q cd).ownBlock = some g ∨ (rowD gm q cm).ownBlock = some g) → g < wr.heap.size) ∧ w.heap.size ≤ wr.heap.size :=
  ⟨L.lt h.log, fun g e => (h.dn.gs g e).2.1, fun g e => by rcases e with e | e; exact (own_lt h.dn.rd g e).1; exact (own_lt h.dn.rm g e).1, h.dn.bel.size⟩
/- the log is written -/
theorem Nx.put {F' : Nat → Prop} {vd vm : Value} (h : Nx w wr F G vd vm E S Fn) (hlow : ∀ g, F g → w.heap.size ≤ g) (hc : Chg F wr w') (hf : ∀ g, F' g → F g ∨ wr.heap.size ≤ g) : Nx w w' F' G vd vm E S Fn := by
  refine ⟨h.ref.chg hc (fun g e1 e2 => ?_) (fun g e1 e2 => (h.off g e1).2.1 e2), fun g e => ?_⟩
  · have h1 := hlow g e1
    have e3 : g < w.heap.size := e2
    omega
  · obtain ⟨o1, o2, o3⟩ := h.off g e
    refine ⟨o1, fun e9 => ?_, o3⟩
    rcases hf g e9 with e8 | e8
    · exact o2 e8
    · have := (h.ref.lt g e).2; omega
/- one op more -/
theorem dn_push {w9 : World} {ops : List Ox} {ends : List Nat} {vd vm vd' vm' : Value} {o : Ox} {b : Nat} (h : Dn w wr ops ends F G Es vd vm) (hlow : ∀ g, F g → w.heap.size ≤ g) (hat : L.At wr X s F) (nx : Nx w wr F G vd vm E (st (ops ++ [o])) Fn) (hc : Chg (fun g => vd.ownBlock = some g ∨ vm.ownBlock = some g) wr w9)
    (hrd : w9.ownsRow w.heap.size 43 1 vd' (ops.length + 1 + 1) (ptrs (Es ++ [E]))) (hrm : w9.ownsRow w.heap.size 3 1 vm' (ops.length + 1 + 1) (nums (0 :: (ends ++ [b])))) (hdo : ∀ g, vd'.ownBlock = some g → vd.ownBlock = some g ∨ wr.heap.size ≤ g) (hmo : ∀ g, vm'.ownBlock = some g → vm.ownBlock = some g ∨ wr.heap.size ≤ g) (hdm : ∀ g, vd'.ownBlock = some g → vm'.ownBlock ≠ some g) :
    L.At w9 X s F ∧ Dn w w9 (ops ++ [o]) (ends ++ [b]) F (fun g => G g ∨ Fn g) (Es ++ [E]) vd' vm' := by
  have hz := h.bel.size
  have hge : ∀ g, (vd.ownBlock = some g ∨ vm.ownBlock = some g) → w.heap.size ≤ g := fun g e => by
    rcases e with e | e
    · exact own_ge h.rd g e
    · exact own_ge h.rm g e
  refine ⟨L.chg hat hc (fun g e1 e2 => (h.rw' g e2).1 e1), h.push (fun i hi => ?_) (nx.ref.chg hc (fun g e1 e2 => ?_) (fun g e1 e2 => ?_)) hrd hrm hc.size (fun g e => ⟨(nx.off g e).1, (nx.off g e).2.1⟩) (fun g e => ?_) hdm (hc.below hge h.bel hz)⟩
  · obtain ⟨Fi, h1, h2⟩ := h.docs i hi
    refine ⟨Fi, h1.chg hc (fun g e1 e2 => ?_) (fun g e1 e2 => (h.rw' g e2).2 (h2 g e1)), h2⟩
    have := hge g e1
    have e3 : g < w.heap.size := e2
    omega
  · have := hge g e1
    have e3 : g < w.heap.size := e2
    omega
  · obtain ⟨_, _, _, o4, o5⟩ := nx.off g e1
    rcases e2 with e2 | e2
    · exact o4 e2
    · exact o5 e2
  · have key : (vd.ownBlock = some g ∨ vm.ownBlock = some g) ∨ wr.heap.size ≤ g := by
      rcases e with e | e
      · rcases hdo g e with e | e
        · exact Or.inl (Or.inl e)
        · exact Or.inr e
      · rcases hmo g e with e | e
        · exact Or.inl (Or.inr e)
        · exact Or.inr e
    rcases key with e | e
    · obtain ⟨r1, r2⟩ := h.rw' g e
      refine ⟨r1, r2, fun e9 => ?_⟩
      obtain ⟨_, _, _, o4, o5⟩ := nx.off g e9
      rcases e with e | e
      · exact o4 e
      · exact o5 e
    · exact ⟨fun e9 => by have := L.lt hat g e9; omega, fun e9 => by have := (h.gs g e9).2.1; omega, fun e9 => by have := (nx.ref.lt g e9).2; omega⟩
/- the last doc, and the mark of any -/
theorem Kn.last {j : Nat} (h : Kn L w wr X s F G Es gd cd gm cm (j + 1)) : wr.cell? ⟨gd, j, none⟩ = some (.pointer (some ⟨Es.getD j 0, 0, none⟩)) ∧ ∃ Fi, RefAt (Old w) wr (Es.getD j 0) (st s.ops) Fi ∧ ∀ g, Fi g → G g := by
  have hq := h.qe
  have hj : j = s.ops.length := by omega
  have hrd := h.dn.rd
  have hl := h.dn.len
  subst hj
  obtain ⟨Fi, h1, h2⟩ := h.dn.docs s.ops.length (Nat.le_refl _)
  rw [List.take_length] at h1
  exact ⟨row_cell hrd (ptr_at (by omega)), Fi, h1, h2⟩
theorem Kn.doc {i : Nat} (h : Kn L w wr X s F G Es gd cd gm cm q) (hi : i < q) : wr.cell? ⟨gd, i, none⟩ = some (.pointer (some ⟨Es.getD i 0, 0, none⟩)) ∧ ∃ Fi, RefAt (Old w) wr (Es.getD i 0) (st (s.ops.take i)) Fi ∧ ∀ g, Fi g → G g := by
  have hq := h.qe
  have hrd := h.dn.rd
  have hl := h.dn.len
  subst hq
  obtain ⟨Fi, h1, h2⟩ := h.dn.docs i (by omega)
  exact ⟨row_cell hrd (ptr_at (by omega)), Fi, h1, h2⟩
end
theorem infoP : (Tryz.prog.info? 43).map (fun i => (i.zero, i.size, i.bytes)) = some (some (.pointer none), 1, 8) := by kernel_rfl
theorem infoI : (Tryz.prog.info? 3).map (fun i => (i.zero, i.size, i.bytes)) = some (some (.int .i64 0), 1, 8) := by kernel_rfl
theorem one_cell (w : World) (x : Value) (t : TypeId) : ∀ j u, [x][j]? = some u → (w.alloc (.cells #[x] t)).cell? ((⟨w.heap.size, 0, none⟩ : Addr).add j) = some u := by
  intro j u hu
  have hj : j = 0 := by
    have := (List.getElem?_eq_some_iff.1 hu).1
    simpa using this
  subst hj
  have hx : x = u := by simpa using hu
  rw [Addr.add_lit, Nat.zero_add, ← hx]
  exact Oc.one_new w x t
theorem high_le' {s : Lg} (ok : Ok s) (keep : Int) : high s keep ≤ s.bytes := by
  have := ok.safe
  unfold high
  split <;> omega
theorem bd_sync {s : Lg} {n : Nat} (h : Bd s n) : Bd (syncS s) n := by
  obtain ⟨e1, _, e3, _⟩ := Tm.sync_same s
  unfold Bd at *
  rw [e1, e3]; exact h
theorem st_snoc (l : List Ox) (o : Ox) : apS (st l) o = st (l ++ [o]) := by unfold st; rw [List.foldl_append]; rfl
theorem getD_mem {l : List Int} {i : Nat} (h : i < l.length) : l.getD i 0 ∈ l := by rw [List.getD_eq_getElem?_getD, List.getElem?_eq_getElem h]; exact List.getElem_mem h
theorem in_old {w : World} {v : Value} {l : List Dt} (h : DtsAt w v l) : In (Old w) v := fun a n c e hn => by
  obtain ⟨q, c2, hv, hin, _⟩ := h
  rw [e] at hv
  injection hv with e1 e2 e3
  rcases hin with e0 | ⟨bb, oo, hp9, hcs⟩
  · rw [e0] at e2; simp at e2; omega
  · rw [hp9] at e1; injection e1 with e1; rw [e1]; exact (hcs 0 (by omega)).lt

/- the calls of a round, each with what it leaves -/
section
variable {L : LogSays} {w wr : World} {X : Nat} {s : Lg} {F G Fn : Nat → Prop} {Es : List Nat} {gd cd gm cm q E n : Nat}
theorem Kn.copy {j : Nat} (h : Kn L w wr X s F G Es gd cd gm cm (j + 1)) : ∃ E1, wr.cell? ⟨gd, j, none⟩ = some (.pointer (some ⟨E1, 0, none⟩)) ∧ Calls Tryz.prog 16 #[.pointer (some ⟨E1, 0, none⟩)] wr fun e w' => ∃ E3 F3, e = .returned (.pointer (some ⟨E3, 0, none⟩)) ∧ Hid (Kn L w w' X s F G Es gd cd gm cm (j + 1)) ∧ Hid (Nx w w' F G (rowD gd (j + 1) cd) (rowD gm (j + 1) cm) E3 (st s.ops) F3) := by
  obtain ⟨hce, Fi, hri, hgi⟩ := h.last
  refine ⟨_, hce, (Tj.copy_ref (Old w) _ _ Fi wr hri).mono ?_⟩
  rintro e w3 ⟨E3, F3, rfl, hr3, hf3, hb3⟩
  exact ⟨E3, F3, rfl, h.below hb3, h.nx hr3 hf3⟩
theorem Kn.bytes (LT : LogTells L) (h : Kn L w wr X s F G Es gd cd gm cm q) (hd : Bd s n) {S : Dq} (hn : Nx w wr F G (rowD gd q cd) (rowD gm q cm) E S Fn) : Calls Tryz.prog 13 #[ptr X] wr fun e w' => e = .returned (.int .i64 s.bytes) ∧ Hid (Kn L w w' X s F G Es gd cd gm cm q) ∧ Hid (Nx w w' F G (rowD gd q cd) (rowD gm q cm) E S Fn) :=
  (LT.bytes X s F wr h.log hd.fit).mono fun e w' ⟨h1, h2⟩ => ⟨h1, h.below h2, hn.below h2⟩
theorem Kn.ap {pv : Option Addr} {nv cv : Nat} {a b t : Int} {p : ByteArray} {c : Int} {xs : List Dt} (h : Kn L w wr X s F G Es gd cd gm cm q) (hn : Nx w wr F G (rowD gd q cd) (rowD gm q cm) E (st s.ops) Fn) (hdx : DtsAt w (.slice pv nv cv) xs ∧ p.size ≤ maxLen) :
    Calls Tryz.prog 17 #[.pointer (some ⟨E, 0, none⟩), .agg #[.int .i64 a, .int .i64 b, .int .i64 t, .string p, .int .i64 c, .slice pv nv cv]] wr fun e w' => e = .returned (.tuple #[.bool (isNew (st s.ops) ((a, b), t, p, c, xs)), .int .i64 (apE (st s.ops) ((a, b), t, p, c, xs))]) ∧ ∃ F5, Hid (Kn L w w' X s F G Es gd cd gm cm q) ∧ Hid (Nx w w' F G (rowD gd q cd) (rowD gm q cm) E (apS (st s.ops) ((a, b), t, p, c, xs)) F5) :=
  (Xs.apply_ref (Old w) E (st s.ops) Fn a b t p c (.slice pv nv cv) xs wr hn.ref (hdx.1.below h.bel) (in_old hdx.1) hdx.2).mono fun e w' ⟨h1, F5, h2, h3, h4⟩ => ⟨h1, F5, h.apply hn h3, hn.apply h.lts.1 h.lts.2.1 h.lts.2.2.1 h.lts.2.2.2 h2 h4⟩
theorem Kn.putc {pv : Option Addr} {nv cv : Nat} {a b t : Int} {p : ByteArray} {c : Int} {xs : List Dt} {S : Dq} (h : Kn L w wr X s F G Es gd cd gm cm q) (hd : Bd s n) (hn : Nx w wr F G (rowD gd q cd) (rowD gm q cm) E S Fn) (hdx : DtsAt w (.slice pv nv cv) xs ∧ p.size ≤ maxLen) :
    Calls Tryz.prog 8 #[ptr X, .agg #[.int .i64 a, .int .i64 b, .int .i64 t, .string p, .int .i64 c, .slice pv nv cv]] wr fun e w' => e = .returned (.tuple #[.bool (putN s ((a, b), t, p, c, xs)), errV (putE s ((a, b), t, p, c, xs))]) ∧ ∃ r F6, Hid (2 ≤ r ∧ r ≤ 100000) ∧ Hid (L.At w' X (putS s ((a, b), t, p, c, xs) r) F6) ∧ Hid (Dn w w' s.ops s.ends F6 G Es (rowD gd q cd) (rowD gm q cm)) ∧ Hid (∀ g, F6 g → w.heap.size ≤ g) ∧ Hid (Nx w w' F6 G (rowD gd q cd) (rowD gm q cm) E S Fn) :=
  (L.put X s F a b t p c (.slice pv nv cv) xs wr h.log hd.fit (hdx.1.below h.bel) (Iq.off_old hdx.1 h.low) hdx.2).mono fun e w' ⟨h1, r, F6, h2, h3, h4, h5, h6⟩ => ⟨h1, r, F6, ⟨h2, h3⟩, h4, (h.put h4 h5 h6).1, (h.put h4 h5 h6).2, hn.put h.low h5 h6⟩
/- the log's book is the last doc's -/
theorem Kn.books {j : Nat} (h : Kn L w wr X s F G Es gd cd gm cm (j + 1)) : ∃ E9 pb nb cb, wr.cell? ⟨gd, j, none⟩ = some (.pointer (some ⟨E9, 0, none⟩)) ∧ wr.cell? ⟨E9, 0, none⟩ = some (.slice pb nb cb) ∧
    Hid (∀ W, Below wr.heap.size wr W → Calls Tryz.prog 11 #[ptr X] W fun e w' => ∃ D Fd, e = .returned (ptr D) ∧ DocAt w' D (st s.ops) Fd ∧ Below W.heap.size W w') ∧
    Hid (∀ W D Fd, DocAt W D (st s.ops) Fd → Calls Tryz.prog 19 #[.pointer (some ⟨D, 0, none⟩)] W fun e w' => ∃ p n c, e = .returned (.slice p n c) ∧ BookAt w' (.slice p n c) (st s.ops).book ∧ Below W.heap.size W w') ∧
    Hid (∀ W v, Below wr.heap.size wr W → BookAt W v (st s.ops).book → Calls Tryz.prog 18 #[v, .slice pb nb cb] W fun e w' => e = .returned (.bool true) ∧ Below W.heap.size W w') := by
  obtain ⟨hce, Fi, hri, hgi⟩ := h.last
  obtain ⟨pb, nb, cb, pm, nm, cm9, gk, hps⟩ := ref_parts hri
  have hI := hri.inv
  refine ⟨_, pb, nb, cb, hce, (hps wr (Below.refl _ _)).1, fun W hb => (L.doc X s F W (L.below h.log hb)).mono fun e w' ⟨D, Fd, h1, h2, _, h3⟩ => ⟨D, Fd, h1, h2, h3⟩, fun W D Fd hd => (book_get D _ _ W hd).mono fun e w' ⟨v', h1, h2, h3⟩ => ?_, fun W v hb h1 => (Lk.leafs_any v _ _ _ W h1 (hps W hb).2.1 (by have := few_book hI; omega)).mono fun e w' ⟨h1, h2⟩ => ⟨by rw [h1]; simp, h2⟩⟩
  have h2' := h2.1
  obtain ⟨p, c, e9, h9⟩ := h2'
  subst e9
  exact ⟨p, _, c, h1, h2.1, h3⟩
/- a Put that did nothing -/
theorem put_none {o : Ox} {r : Nat} {F6 : Nat → Prop} (hpn : false = putN s o) (hr : 2 ≤ r ∧ r ≤ 100000) (hd : Bd s n) (hn : n < 40) (hq : q = s.ops.length + 1) (hat : L.At wr X (putS s o r) F6) (hdn : Dn w wr s.ops s.ends F6 G Es (rowD gd q cd) (rowD gm q cm)) (hlow : ∀ g, F6 g → w.heap.size ≤ g) : ∃ s2, Hid (Kn L w wr X s2 F6 G Es gd cd gm cm q) ∧ Hid (Bd s2 (n + 1)) := by
  obtain ⟨h1, h2, h3⟩ := Tm.put_no (o := o) hpn.symm r
  refine ⟨putS s o r, ⟨hat, hlow, by rw [h1]; exact hq, by rw [h1, h2]; exact hdn⟩, ?_⟩
  obtain ⟨d1, d2, d3⟩ := hd
  exact ⟨by omega, by rw [h1]; omega, by omega⟩
end

end Tw
end Go.Proofs.YtgefpcchcegcpaaGreatDoor
