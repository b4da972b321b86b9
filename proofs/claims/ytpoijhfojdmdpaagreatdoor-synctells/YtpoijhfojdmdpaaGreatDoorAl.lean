/- Two docs and the reference's two, side by side in memory: what stays while one of them is written. -/
import Derived.Test.YtpoijhfojdmdpaaGreatDoorAd
import Derived.Test.YtpoijhfojdmdpaaGreatDoorAg
namespace Go.Proofs.YtpoijhfojdmdpaaGreatDoor
namespace Al
set_option linter.unusedVariables false
open Go.ChangeShapes Go.WideShapes Go.ChangeAt Go.RowKit Cm Ka Kb Na Om Oa Oz Oc Og Oi Hm Ia Ib Ic Idc Ie If Ig Ih Ii Ij Ik Il Im Iq Um Aa Ac Ae Af Xp
open La (bel bel_drew errV_zero errV_ne own_ge own_grow own_below Lies)
open Lj (BookAt BookNew)

structure Four (P : Nat → Prop) (w : World) (D1 E1 D2 E2 : Nat) (S1 R1 S2 R2 : Dq) (A B C D : Nat → Prop) : Prop where
  d1 : DocAt w D1 S1 A
  e1 : RefAt P w E1 R1 B
  d2 : DocAt w D2 S2 C
  e2 : RefAt P w E2 R2 D
  ab : ∀ g, A g → ¬ B g
  ac : ∀ g, A g → ¬ C g
  ad : ∀ g, A g → ¬ D g
  bc : ∀ g, B g → ¬ C g
  bd : ∀ g, B g → ¬ D g
  cd : ∀ g, C g → ¬ D g
  pa : ∀ g, A g → ¬ P g
  pc : ∀ g, C g → ¬ P g
theorem Four.below {P : Nat → Prop} {w w' : World} {D1 E1 D2 E2 : Nat} {S1 R1 S2 R2 : Dq} {A B C D : Nat → Prop} (h : Four P w D1 E1 D2 E2 S1 R1 S2 R2 A B C D) (hb : Below w.heap.size w w') : Four P w' D1 E1 D2 E2 S1 R1 S2 R2 A B C D :=
  ⟨h.d1.below hb, h.e1.below hb, h.d2.below hb, h.e2.below hb, h.ab, h.ac, h.ad, h.bc, h.bd, h.cd, h.pa, h.pc⟩
theorem grow_off {w : World} {X X' Y : Nat → Prop} (hx : ∀ g, X' g → X g ∨ w.heap.size ≤ g) (hy : ∀ g, Y g → g < w.heap.size) (h : ∀ g, X g → ¬ Y g) : ∀ g, X' g → ¬ Y g := fun g h1 h2 => by
  rcases hx g h1 with e | e
  · exact h g e h2
  · have := hy g h2; omega
theorem Four.set_e2 {P : Nat → Prop} {w w' : World} {D1 E1 D2 E2 : Nat} {S1 R1 S2 R2 R' : Dq} {A B C D D' : Nat → Prop} (h : Four P w D1 E1 D2 E2 S1 R1 S2 R2 A B C D) (hc : Chg D w w') (he : RefAt P w' E2 R' D') (hf : ∀ g, D' g → D g ∨ w.heap.size ≤ g) : Four P w' D1 E1 D2 E2 S1 R1 S2 R' A B C D' := by
  have hA := h.d1.lt
  have hB := fun g hg => (h.e1.lt g hg).2
  have hC := h.d2.lt
  refine ⟨h.d1.chg hc h.ad, h.e1.chg hc (fun g hg => (h.e2.lt g hg).1) h.bd, h.d2.chg hc h.cd, he, h.ab, h.ac, ?_, h.bc, ?_, ?_, h.pa, h.pc⟩
  · exact fun g h1 h2 => grow_off hf hA (fun g e1 e2 => h.ad g e2 e1) g h2 h1
  · exact fun g h1 h2 => grow_off hf hB (fun g e1 e2 => h.bd g e2 e1) g h2 h1
  · exact fun g h1 h2 => grow_off hf hC (fun g e1 e2 => h.cd g e2 e1) g h2 h1
theorem Four.set_e1 {P : Nat → Prop} {w w' : World} {D1 E1 D2 E2 : Nat} {S1 R1 S2 R2 R' : Dq} {A B C D B' : Nat → Prop} (h : Four P w D1 E1 D2 E2 S1 R1 S2 R2 A B C D) (hc : Chg B w w') (he : RefAt P w' E1 R' B') (hf : ∀ g, B' g → B g ∨ w.heap.size ≤ g) : Four P w' D1 E1 D2 E2 S1 R' S2 R2 A B' C D := by
  have hA := h.d1.lt
  have hC := h.d2.lt
  have hD := fun g hg => (h.e2.lt g hg).2
  refine ⟨h.d1.chg hc h.ab, he, h.d2.chg hc (fun g e1 e2 => h.bc g e2 e1), h.e2.chg hc (fun g hg => (h.e1.lt g hg).1) (fun g e1 e2 => h.bd g e2 e1), ?_, h.ac, h.ad, ?_, ?_, h.cd, h.pa, h.pc⟩
  · exact fun g h1 h2 => grow_off hf hA (fun g e1 e2 => h.ab g e2 e1) g h2 h1
  · exact grow_off hf hC h.bc
  · exact grow_off hf hD h.bd
theorem Four.set_dd {P : Nat → Prop} {w w' : World} {D1 E1 D2 E2 : Nat} {S1 R1 S2 R2 S' T' : Dq} {A B C D A' C' : Nat → Prop} (h : Four P w D1 E1 D2 E2 S1 R1 S2 R2 A B C D) (hc : Chg (fun g => A g ∨ C g) w w') (hd : DocAt w' D1 S' A') (hd2 : DocAt w' D2 T' C') (hf : ∀ g, A' g → A g ∨ w.heap.size ≤ g) (hf2 : ∀ g, C' g → C g ∨ w.heap.size ≤ g) (hx : ∀ g, A' g → ¬ C' g) : Four P w' D1 E1 D2 E2 S' R1 T' R2 A' B C' D := by
  have hB := fun g hg => (h.e1.lt g hg).2
  have hD := fun g hg => (h.e2.lt g hg).2
  refine ⟨hd, h.e1.chg hc (fun g hg => by rcases hg with e | e; exact h.pa g e; exact h.pc g e) (fun g e1 e2 => by rcases e2 with e | e; exact h.ab g e e1; exact h.bc g e1 e), hd2, h.e2.chg hc (fun g hg => by rcases hg with e | e; exact h.pa g e; exact h.pc g e) (fun g e1 e2 => by rcases e2 with e | e; exact h.ad g e e1; exact h.cd g e e1), ?_, hx, ?_, ?_, h.bd, ?_, ?_, ?_⟩
  · exact grow_off hf hB h.ab
  · exact grow_off hf hD h.ad
  · exact fun g h1 h2 => grow_off hf2 hB (fun g e1 e2 => h.bc g e2 e1) g h2 h1
  · exact grow_off hf2 hD h.cd
  · exact grow_off hf h.e1.old h.pa
  · exact grow_off hf2 h.e1.old h.pc

/- the reference's parts, at whatever world behind -/
structure Parts (P : Nat → Prop) (w : World) (E : Nat) (S : Dq) (pb : Option Addr) (nb cb gk : Nat) (po : Option Addr) (no co : Nat) : Prop where
  c0 : ∀ W, Below w.heap.size w W → W.cell? ⟨E, 0, none⟩ = some (.slice pb nb cb)
  c2 : ∀ W, Below w.heap.size w W → W.cell? ⟨E, 2, none⟩ = some (.slice (some ⟨gk, 0, none⟩) 8 8)
  c3 : ∀ W, Below w.heap.size w W → W.cell? ⟨E, 3, none⟩ = some (.slice po no co)
  known : ∀ W, Below w.heap.size w W → KnAt W (.slice (some ⟨gk, 0, none⟩) 8 8) S.known
  ops : ∀ W, Below w.heap.size w W → OpsJ (New 0 W) P W (.slice po no co) S.ops
theorem parts {P : Nat → Prop} {w : World} {E : Nat} {S : Dq} {F : Nat → Prop} (h : RefAt P w E S F) : ∃ pb nb cb gk po no co, Parts P w E S pb nb cb gk po no co := by
  obtain ⟨I, gk, vb, vm, vo, hm⟩ := h
  obtain ⟨po, no, co, hvo⟩ : ∃ p n c, vo = .slice p n c := by obtain ⟨L, _, e, _⟩ := hm.ops; obtain ⟨p, n, c, e2, _⟩ := own_shape e; exact ⟨p, n, c, e2⟩
  obtain ⟨pb, nb, cb, hvb⟩ : ∃ p n c, vb = .slice p n c := by obtain ⟨p, c, e, _⟩ := hm.book; exact ⟨_, _, _, e⟩
  subst hvo hvb
  refine ⟨pb, nb, cb, gk, po, no, co, fun W hb => blk_cell (hm.below hb).blk rfl, fun W hb => blk_cell (hm.below hb).blk rfl, fun W hb => blk_cell (hm.below hb).blk rfl, fun W hb => ?_, fun W hb => ?_⟩
  · obtain ⟨cur, k1, k2⟩ := (hm.below hb).kn
    refine ⟨some ⟨gk, 0, none⟩, 8, by rw [I.klen], Or.inr ⟨gk, 0, rfl, fun j hj => ?_⟩⟩
    rw [Nat.zero_add]
    refine blk_cell k1 ?_
    rw [← Array.getElem?_toList, k2, List.getElem?_map, List.getElem?_eq_getElem hj, List.getD_eq_getElem?_getD, List.getElem?_eq_getElem hj]; rfl
  · obtain ⟨L, o1, o2, o3⟩ := (hm.below hb).ops
    rw [← o1]
    refine OpsJ.own ?_ o3
    unfold RowL
    rw [show L.length = S.ops.length by rw [← o1, List.length_map]]
    exact o2
/- the reference's book stays while its own blocks do -/
theorem book_at {P : Nat → Prop} {w : World} {E : Nat} {S : Dq} {F : Nat → Prop} (h : RefAt P w E S F) : ∃ pb nb cb, ∀ W : World, Stay F w W → W.cell? ⟨E, 0, none⟩ = some (.slice pb nb cb) ∧ BookAt W (.slice pb nb cb) S.book := by
  obtain ⟨I, gk, vb, vm, vo, hm⟩ := h
  obtain ⟨pb, nb, cb, hvb⟩ : ∃ p n c, vb = .slice p n c := by obtain ⟨p, c, e, _⟩ := hm.book; exact ⟨_, _, _, e⟩
  subst hvb
  refine ⟨pb, nb, cb, fun W hs => ⟨?_, book_stay hm.book hm.bookG (fun g hg => hs g hg.1)⟩⟩
  have hb9 : W.heap[E]? = some (.cells #[.slice pb nb cb, vm, .slice (some ⟨gk, 0, none⟩) 8 8, vo] 46) := by rw [hs E (hm.wr E (Or.inl rfl))]; exact hm.blk
  exact blk_cell hb9 rfl

/- lists that are short enough to be compared -/
def Small (L : List Ox) : Prop := L.length ≤ 1048576 ∧ ∀ x ∈ L, x.2.2.2.2.length ≤ 1048576
theorem lack_small (l : List Ox) (v : List Int) : Small (outL (lackE l v) (lackL l v)) := by
  unfold outL
  by_cases h : lackE l v = 0
  · rw [if_pos h]
    have hp : packE l = 0 := by
      unfold lackE at h
      by_cases hv : Dm.vecE v = 0
      · rw [if_neg (by simpa using hv)] at h; exact h
      · rw [if_pos hv] at h; exact absurd h hv
    obtain ⟨h1, h2⟩ := packE_zero.1 hp
    refine ⟨by have := lack_len l v; omega, fun x hx => ?_⟩
    have := (lawOf_zero.1 (opE_zero.1 (h2 x (lack_mem hx))).2.2.2).2.2.2.1
    omega
  · rw [if_neg h]; exact ⟨Nat.zero_le _, fun x hx => by cases hx⟩
theorem lack_zero {l : List Ox} {v : List Int} (h : lackE l v = 0) : v.length = 8 ∧ l.length ≤ 400 ∧ ∀ o ∈ l, 1 ≤ o.1.1 ∧ o.1.1 ≤ 8 := by
  unfold lackE at h
  by_cases hv : Dm.vecE v = 0
  · rw [if_neg (by simpa using hv)] at h
    obtain ⟨h1, h2⟩ := packE_zero.1 h
    refine ⟨(Dm.vecE_zero.1 hv).1, h1, fun o ho => ?_⟩
    obtain ⟨d1, d2, _, _⟩ := dotE_iff.1 (opE_zero.1 (h2 o ho)).1
    exact ⟨d1, d2⟩
  · rw [if_pos hv] at h; exact absurd h hv
theorem who_doc {S : Dq} (I : Inv S) : ∀ o ∈ S.ops, 1 ≤ o.1.1 ∧ o.1.1 ≤ 8 := fun o ho => by
  obtain ⟨d1, d2, _, _⟩ := dotE_iff.1 (opE_zero.1 (I.right o ho)).1
  exact ⟨d1, d2⟩
theorem enter_lacks (args : Array Value) (W : World) : (callFunc 6 args).run Tryz.prog W = .ok (.enter 6 args) W := by
  first | kernel_rfl | simp [callFunc, go_sem, Tryz.func6]
theorem enter_take (args : Array Value) (W : World) : (callFunc 13 args).run Tryz.prog W = .ok (.enter 13 args) W := by
  first | kernel_rfl | simp [callFunc, go_sem, Tryz.func13]

end Al
end Go.Proofs.YtpoijhfojdmdpaaGreatDoor
