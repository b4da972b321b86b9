/- The reference's Out of an end; an end of package link and the reference's side by side. -/
import Derived.Test.YtaicacnijlneaaaDoorEu
import Derived.Test.YtaicacnijlneaaaDoorEs
import Derived.Test.YtaicacnijlneaaaDoorEv
namespace Go.Proofs.YtaicacnijlneaaaDoor
namespace Ew
set_option linter.unusedVariables false
set_option linter.unusedSimpArgs false
open Go.ChangeShapes Go.WideShapes Go.ChangeAt Go.RowKit Ka Kb Ec Ef Eg Eo Et Eu
open Em (Hid.mk' wrap_in at_new text_new)

theorem rout_any (M : Nat) (s : Ln) (G : Nat → Prop) (w : World) (h : RAt w M s G) (hi : Inv s) (hf : Fit s) : Calls Tryd.prog 7 #[ptr M] w fun e w' => ∃ p n c, e = .returned (.slice p n c) ∧ FrsJ (New w.heap.size w') w' (.slice p n c) (outF s) ∧ RLeft w M G (outS s) w' := by
  obtain ⟨u, g, m, hF⟩ := h
  have a1 := hi.ak
  have a2 := hi.sd
  have a3 := hi.w2
  have a4 := hf.1
  have a5 := hf.2.1
  obtain ⟨cnt, hc⟩ : ∃ cnt, cnt = min (s.acked + s.win) s.all.length - s.acked := ⟨_, rfl⟩
  refine (rout_raw M w s.win s.wait s.acked s.said s.ticks u g s.owes (late s) s.all s.got m a1 a2 (by omega) (by omega) a3 rfl cnt hc).mono ?_
  rintro e w' ⟨v, rfl, hr, hm, hch⟩
  obtain ⟨p, n, c, rfl, _⟩ := own_shape hr
  have hsy : sel s.acked s.said (late s) cnt = saysN s := by unfold sel saysN; rw [hc]; rfl
  refine ⟨p, n, c, rfl, ?_, rleft_mk hF (u' := u) (g' := g) ?_ hch (fun k e => Or.inl e)⟩
  · rw [hsy] at hr
    exact (FrsJ.own hr).mono fun k hk => ⟨own_ge hr k hk, (own_lt hr k hk).1⟩
  · have e1 : max s.said (s.acked + cnt) = max s.said (last s) := by unfold last; omega
    have e2 : tk s.acked s.said (late s) s.ticks cnt = if saysN s = [] then s.ticks else 0 := by unfold tk; rw [hsy]
    show Raw w' M s.win s.wait u s.acked (max s.said (last s) : Nat) ((if saysN s = [] then s.ticks else 0 : Nat) : Int) g false s.all s.got
    rw [← e1, ← e2]
    exact hm

/- two ends: package link's at X, the reference's at M -/
structure Pl (w wr : World) (X M : Nat) (sx sm : Ln) (F G : Nat → Prop) : Prop where
  x : Em.At wr X sx F
  m : RAt wr M sm G
  off : ∀ g, F g → ¬ G g
  lx : ∀ g, F g → w.heap.size ≤ g
  lm : ∀ g, G g → w.heap.size ≤ g
  bel : Below w.heap.size w wr
section
variable {w wr w' : World} {X M : Nat} {sx sm : Ln} {F G : Nat → Prop}
theorem Pl.below (h : Pl w wr X M sx sm F G) (hb : Below wr.heap.size wr w') : Pl w w' X M sx sm F G :=
  ⟨h.x.stay (fun g hg => hb.block g (h.x.lt g hg)) hb.size, h.m.below hb, h.off, h.lx, h.lm, Ef.bel h.bel hb⟩
theorem Pl.set_x (h : Pl w wr X M sx sm F G) {sx' : Ln} (hl : ∃ F', Em.At w' X sx' F' ∧ Chg F wr w' ∧ ∀ g, F' g → F g ∨ wr.heap.size ≤ g) : ∃ F', Pl w w' X M sx' sm F' G := by
  obtain ⟨F', h1, h2, h3⟩ := hl
  refine ⟨F', h1, h.m.stay (h2.stay fun g hg => ⟨h.m.lt g hg, fun e => h.off g e hg⟩), fun g e1 e2 => ?_, fun g e => ?_, h.lm, h2.below h.lx h.bel h.bel.size⟩
  · rcases h3 g e1 with e | e
    · exact h.off g e e2
    · have := h.m.lt g e2; omega
  · rcases h3 g e with e | e
    · exact h.lx g e
    · have := h.bel.size; omega
theorem Pl.set_m (h : Pl w wr X M sx sm F G) {sm' : Ln} (hl : RLeft wr M G sm' w') : ∃ G', Pl w w' X M sx sm' F G' := by
  obtain ⟨G', h1, h2, h3⟩ := hl
  refine ⟨G', h.x.stay (h2.stay fun g hg => ⟨h.x.lt g hg, h.off g hg⟩) h2.size, h1, fun g e1 e2 => ?_, h.lx, fun g e => ?_, h2.below h.lm h.bel h.bel.size⟩
  · rcases h3 g e2 with e | e
    · exact h.off g e1 e
    · have := h.x.lt g e1; omega
  · rcases h3 g e with e | e
    · exact h.lm g e
    · have := h.bel.size; omega
end
/- how great its numbers may be -/
def Bd (s : Ln) (i : Nat) : Prop := s.all.length ≤ i ∧ s.got.length ≤ i ∧ s.ticks ≤ i
theorem Bd.fit {s : Ln} {i : Nat} (h : Bd s i) (hi : i ≤ 1000) : Fit s := ⟨Nat.le_trans h.1 hi, Nat.le_trans h.2.1 hi, Nat.le_trans h.2.2 (by omega)⟩
theorem Bd.send {s : Ln} {i : Nat} (h : Bd s i) (d : ByteArray) : Bd (sendS s d) (i + 1) := by
  obtain ⟨h1, h2, h3⟩ := h
  unfold sendS
  split
  · exact ⟨by omega, by omega, by omega⟩
  · exact ⟨by show (s.all ++ [d]).length ≤ _; rw [List.length_append]; show s.all.length + 1 ≤ _; omega, by show s.got.length ≤ _; omega, by show s.ticks ≤ _; omega⟩
theorem Bd.out {s : Ln} {i : Nat} (h : Bd s i) : Bd (outS s) (i + 1) := by
  obtain ⟨h1, h2, h3⟩ := h
  exact ⟨by show s.all.length ≤ _; omega, by show s.got.length ≤ _; omega, by show (if saysN s = [] then s.ticks else 0) ≤ _; split <;> omega⟩
theorem Bd.tick {s : Ln} {i : Nat} (h : Bd s i) : Bd (tick s) (i + 1) := by
  obtain ⟨h1, h2, h3⟩ := h
  exact ⟨by show s.all.length ≤ _; omega, by show s.got.length ≤ _; omega, by show s.ticks + 1 ≤ _; omega⟩
theorem Bd.hear {s : Ln} {i : Nat} (h : Bd s i) (f : Fr) : Bd (hearS s f) (i + 1) := by
  obtain ⟨h1, h2, h3⟩ := h
  unfold hearS
  split
  · exact ⟨by omega, by omega, by omega⟩
  · split
    · exact ⟨by show s.all.length ≤ _; omega, by show s.got.length ≤ _; omega, by show s.ticks ≤ _; omega⟩
    · refine ⟨by show s.all.length ≤ _; omega, ?_, by show s.ticks ≤ _; omega⟩
      show (if f.2.1 = (s.got.length : Int) + 1 then s.got ++ [f.2.2] else s.got).length ≤ _
      split
      · rw [List.length_append]; show s.got.length + 1 ≤ _; omega
      · omega

end Ew
end Go.Proofs.YtaicacnijlneaaaDoor
