/- TopTogether: a net, and two rows of texts beside it: the places by which cursors are held, and their letters. -/
import Derived.Test.YtlmdchpbpgcfmaaGreatDoorH1
import Derived.Test.YtlmdchpbpgcfmaaGreatDoorT1
import Derived.Test.YtlmdchpbpgcfmaaGreatDoorJ10
namespace Go.Proofs.YtlmdchpbpgcfmaaGreatDoor
namespace Gm
set_option linter.unusedVariables false
set_option linter.unusedSimpArgs false
open Go.ChangeShapes Go.WideShapes Go.ChangeAt Go.RowKit Cm Ka Kb Na Om Oa Oz Oc Og Oi Hm Ia Ic Ie Aa Hc Hd Hh
open La (bel bel_drew errV_zero errV_ne own_ge own_grow own_below Lies)

def e0 : ByteArray := ⟨#[]⟩
abbrev RowT (B : Nat) (w : World) (v : Value) (l : List ByteArray) : Prop := w.ownsRow B 9 1 v l.length (l.map Value.string)
structure Tm (L : NetSays) (w0 w : World) (X : Nat) (N : Nt) (vh vl : Value) (hs ls : List ByteArray) : Prop where
  at' : ∃ F, L.At w X N F ∧ ∀ g, F g → w0.heap.size ≤ g ∧ vh.ownBlock ≠ some g ∧ vl.ownBlock ≠ some g
  gl : Gl N
  few : N.us.length ≤ 100
  bel : Below w0.heap.size w0 w
  rh : RowT w0.heap.size w vh hs
  rl : RowT w0.heap.size w vl ls
  apart : ∀ g, vh.ownBlock = some g → vl.ownBlock ≠ some g
section
variable {L : NetSays} {w0 w w' : World} {X : Nat} {N : Nt} {vh vl : Value} {hs ls : List ByteArray}
theorem Tm.swap (h : Tm L w0 w X N vh vl hs ls) : Tm L w0 w X N vl vh ls hs := by
  obtain ⟨F, h1, h2⟩ := h.at'
  exact ⟨⟨F, h1, fun g hg => ⟨(h2 g hg).1, (h2 g hg).2.2, (h2 g hg).2.1⟩⟩, h.gl, h.few, h.bel, h.rl, h.rh, fun g e1 e2 => h.apart g e2 e1⟩
theorem Tm.below (h : Tm L w0 w X N vh vl hs ls) (hb : Below w.heap.size w w') : Tm L w0 w' X N vh vl hs ls := by
  obtain ⟨F, h1, h2⟩ := h.at'
  exact ⟨⟨F, L.below h1 hb, h2⟩, h.gl, h.few, La.bel h.bel hb, own_below h.rh hb, own_below h.rl hb, h.apart⟩
theorem tm_of (h : Nc L w0 w X N) : Tm L w0 w X N (.slice none 0 0) (.slice none 0 0) [] [] := by
  obtain ⟨F, h1, h2⟩ := h.at'
  exact ⟨⟨F, h1, fun g hg => ⟨h2 g hg, (by intro e; cases e), (by intro e; cases e)⟩⟩, h.gl, h.few, h.bel, ⟨rfl, Or.inl ⟨rfl, rfl⟩⟩, ⟨rfl, Or.inl ⟨rfl, rfl⟩⟩, fun g e => by cases e⟩
/- a row grows -/
theorem Tm.put {W w1 : World} {v' : Value} {p : ByteArray} (h : Tm L w0 w X N vh vl hs ls) (hb : Below w.heap.size w W) (hr : RowT w0.heap.size w1 v' (hs ++ [p])) (hg : W.grownBy w1 vh.ownBlock) (hat : v'.ownBlock = vh.ownBlock ∨ v'.ownBlock = some W.heap.size) : Tm L w0 w1 X N v' vl (hs ++ [p]) ls := by
  have hW := h.below hb
  obtain ⟨F, h1, h2⟩ := hW.at'
  have hc : Chg (fun g => vh.ownBlock = some g) W w1 := Chg.grown hg fun g e => e
  refine ⟨⟨F, L.stay h1 (fun g hF => hc.block g (L.lt h1 g hF) (h2 g hF).2.1) hc.size, fun g hF => ⟨(h2 g hF).1, fun e => ?_, (h2 g hF).2.2⟩⟩, hW.gl, hW.few, own_grow hW.rh hW.bel hg hW.bel.size, hr, own_stay hW.rl fun g e => hc.block g (own_lt hW.rl g e).1 (fun e2 => hW.apart g e2 e), fun g e1 e2 => ?_⟩
  · rcases hat with a | a
    · exact (h2 g hF).2.1 (a ▸ e)
    · rw [e] at a; injection a with a; have := L.lt h1 g hF; omega
  · rcases hat with a | a
    · exact hW.apart g (a ▸ e1) e2
    · rw [e1] at a; injection a with a; have := (own_lt hW.rl g e2).1; omega
theorem Tm.does (h : Tm L w0 w X N vh vl hs ls) (e : Ev) : Calls Tryz.prog 8 #[ptr X, evV e] w fun r w' => r = .returned (errV (evE N e)) ∧ Tm L w0 w' X (evS N e) vh vl hs ls := by
  obtain ⟨F, h1, h2⟩ := h.at'
  refine (L.does X N F e w h1 h.gl h.few).mono ?_
  rintro r w' ⟨hr, F', q1, q2, q3⟩
  refine ⟨hr, ⟨F', q1, fun g hg => ?_⟩, (h.gl.ev e).1, us_ev h.few e, q2.below (fun g hg => (h2 g hg).1) h.bel h.bel.size, own_stay h.rh fun g e9 => q2.block g (own_lt h.rh g e9).1 (fun hF => (h2 g hF).2.1 e9), own_stay h.rl fun g e9 => q2.block g (own_lt h.rl g e9).1 (fun hF => (h2 g hF).2.2 e9), h.apart⟩
  rcases q3 g hg with e9 | e9
  · exact h2 g e9
  · have hb := h.bel.size
    exact ⟨by omega, fun e8 => by have := (own_lt h.rh g e8).1; omega, fun e8 => by have := (own_lt h.rl g e8).1; omega⟩
theorem Tm.under (U : NetUnder L) (h : Tm L w0 w X N vh vl hs ls) : Calls Tryz.prog 10 #[ptr X] w fun r w' => r = .returned (.int .i64 N.us.length) ∧ Tm L w0 w' X N vh vl hs ls := by
  obtain ⟨F, h1, h2⟩ := h.at'
  exact (U.under X N F w h1 h.few).mono fun r w' ⟨hr, hb⟩ => ⟨hr, h.below hb⟩
theorem Tm.same (U : NetSame L) (h : Tm L w0 w X N vh vl hs ls) (hn : 1 ≤ N.ds.length) : Calls Tryz.prog 9 #[ptr X] w fun r w' => r = .returned (.bool (sameB N)) ∧ Tm L w0 w' X N vh vl hs ls := by
  obtain ⟨F, h1, h2⟩ := h.at'
  exact (U.same X N F w h1 h.gl hn).mono fun r w' ⟨hr, hb⟩ => ⟨hr, h.below hb⟩
theorem Tm.doc (U : NetDoc L) (h : Tm L w0 w X N vh vl hs ls) {i : Nat} (hi : i < N.ds.length) : Calls Tryz.prog 14 #[ptr X, .int .i64 i] w fun e w' => ∃ D Fd, e = .returned (.tuple #[ptr D, .nilIface]) ∧ DocAt w' D (dq N i) Fd ∧ Tm L w0 w' X N vh vl hs ls := by
  obtain ⟨F, h1, h2⟩ := h.at'
  exact (U.doc X N F i w h1 hi).mono fun r w' ⟨D, Fd, hr, hd, _, hb⟩ => ⟨D, Fd, hr, hd, h.below hb⟩
theorem Tm.und (h : Tm L w0 w X N vh vl hs ls) : L.und w X = N.us.length := by
  obtain ⟨F, h1, h2⟩ := h.at'
  exact L.und_eq h1
theorem row_cell {B : Nat} {v : Value} {l : List ByteArray} (h : RowT B w v l) : ∃ p c, v = .slice p l.length c ∧ (0 < l.length → ∃ g, p = some ⟨g, 0, none⟩ ∧ ∀ j, j < l.length → w.cell? ⟨g, j, none⟩ = some (.string (l.getD j e0))) := by
  rcases h.2 with ⟨e, e9⟩ | ⟨g, cap, cur, h1, h2, h3, h4, h5, h6, h7⟩
  · exact ⟨none, 0, by rw [e, e9], fun h9 => by omega⟩
  · refine ⟨_, cap, h1, fun _ => ⟨g, rfl, fun j hj => ?_⟩⟩
    have h9 := World.ownsRow.cells h (g := g) (by rw [h1]; rfl) j (.string (l.getD j e0)) (by rw [List.getElem?_map, List.getElem?_eq_getElem hj, List.getD_eq_getElem?_getD, List.getElem?_eq_getElem hj]; rfl)
    rw [Addr.add_lit, Nat.zero_add] at h9
    exact h9
end
/- what the rows say -/
structure Pu (N : Nt) (n : Nat) (hs ls : List ByteArray) : Prop where
  len : N.ds.length = n
  lh : hs.length ≤ n
  ll : ls.length = hs.length
  hold : ∀ i, i < hs.length → Hold (dq N i) (hs.getD i e0) (ls.getD i e0) ∧ (hs.getD i e0).size ≤ 12
theorem Pu.ev {N : Nt} {n : Nat} {hs ls : List ByteArray} (h : Pu N n hs ls) (g : Gl N) (e : Ev) : Pu (evS N e) n hs ls := by
  refine ⟨(g.ev e).2.trans h.len, h.lh, h.ll, fun i hi => ⟨?_, (h.hold i hi).2⟩⟩
  have h1 : i < N.ds.length := by have := h.lh; have := h.len; omega
  exact hold_up (g.inv i h1).1 ((g.ev e).1.inv i (by rw [(g.ev e).2]; exact h1)).1 (fun o ho => ev_up g e i o ho) (h.hold i hi).1
theorem Pu.push {N : Nt} {n : Nat} {hs ls : List ByteArray} (h : Pu N n hs ls) (hk : hs.length < n) {p c : ByteArray} (hh : Hold (dq N hs.length) p c) (hp : p.size ≤ 12) : Pu N n (hs ++ [p]) (ls ++ [c]) := by
  refine ⟨h.len, by rw [List.length_append]; exact hk, by rw [List.length_append, List.length_append, h.ll]; rfl, fun i hi => ?_⟩
  rw [List.length_append] at hi
  have hi' : i < hs.length + 1 := hi
  by_cases e : i = hs.length
  · subst e
    have e1 : (hs ++ [p]).getD hs.length e0 = p := by rw [List.getD_eq_getElem?_getD, List.getElem?_append_right (Nat.le_refl _), Nat.sub_self]; rfl
    have e2 : (ls ++ [c]).getD hs.length e0 = c := by rw [← h.ll, List.getD_eq_getElem?_getD, List.getElem?_append_right (Nat.le_refl _), Nat.sub_self]; rfl
    rw [e1, e2]; exact ⟨hh, hp⟩
  · have hlt : i < hs.length := by omega
    have e1 : (hs ++ [p]).getD i e0 = hs.getD i e0 := by rw [List.getD_eq_getElem?_getD, List.getElem?_append_left hlt, List.getD_eq_getElem?_getD]
    have e2 : (ls ++ [c]).getD i e0 = ls.getD i e0 := by rw [List.getD_eq_getElem?_getD, List.getElem?_append_left (by rw [h.ll]; exact hlt), List.getD_eq_getElem?_getD]
    rw [e1, e2]; exact h.hold i hlt
theorem pu_nil {N : Nt} {n : Nat} (h : N.ds.length = n) : Pu N n [] [] := ⟨h, Nat.zero_le _, rfl, fun i hi => absurd hi (Nat.not_lt_zero i)⟩
/- all of it -/
structure Tg (L : NetSays) (w0 w : World) (X n : Nat) (N : Nt) (vh vl : Value) (hs ls : List ByteArray) : Prop where
  tm : Tm L w0 w X N vh vl hs ls
  pu : Pu N n hs ls
section
variable {L : NetSays} {w0 w w' : World} {X n : Nat} {N : Nt} {vh vl : Value} {hs ls : List ByteArray}
theorem Tg.below (h : Tg L w0 w X n N vh vl hs ls) (hb : Below w.heap.size w w') : Tg L w0 w' X n N vh vl hs ls := ⟨h.tm.below hb, h.pu⟩
theorem Tg.does (h : Tg L w0 w X n N vh vl hs ls) (e : Ev) : Calls Tryz.prog 8 #[ptr X, evV e] w fun r w' => r = .returned (errV (evE N e)) ∧ Hid (Tg L w0 w' X n (evS N e) vh vl hs ls) :=
  (h.tm.does e).mono fun r w' ⟨h1, h2⟩ => ⟨h1, h2, h.pu.ev h.tm.gl e⟩
theorem Tg.under (U : NetUnder L) (h : Tg L w0 w X n N vh vl hs ls) : Calls Tryz.prog 10 #[ptr X] w fun r w' => r = .returned (.int .i64 N.us.length) ∧ Hid (Tg L w0 w' X n N vh vl hs ls) :=
  (h.tm.under U).mono fun r w' ⟨h1, h2⟩ => ⟨h1, h2, h.pu⟩
theorem Tg.same (U : NetSame L) (h : Tg L w0 w X n N vh vl hs ls) (hn : 1 ≤ n) : Calls Tryz.prog 9 #[ptr X] w fun r w' => r = .returned (.bool (sameB N)) ∧ Hid (Tg L w0 w' X n N vh vl hs ls) :=
  (h.tm.same U (by rw [h.pu.len]; exact hn)).mono fun r w' ⟨h1, h2⟩ => ⟨h1, h2, h.pu⟩
theorem Tg.doc (U : NetDoc L) (h : Tg L w0 w X n N vh vl hs ls) {i : Nat} (hi : i < n) : Calls Tryz.prog 14 #[ptr X, .int .i64 i] w fun e w' => ∃ D Fd, e = .returned (.tuple #[ptr D, .nilIface]) ∧ Hid (DocAt w' D (dq N i) Fd) ∧ Hid (Tg L w0 w' X n N vh vl hs ls) :=
  (h.tm.doc U (by rw [h.pu.len]; exact hi)).mono fun r w' ⟨D, Fd, h1, h2, h3⟩ => ⟨D, Fd, h1, h2, h3, h.pu⟩
theorem Tg.pair (h : Tg L w0 w X n N vh vl hs ls) (hu : N.us = []) {i j : Nat} (hi : i < n) (hj : j < n) (hij : i ≠ j) :
    Calls Tryz.prog 8 #[ptr X, .agg #[.int .i64 3, .int .i64 i, .int .i64 j, .int .i64 0]] w fun r w' => r = .returned .nilIface ∧ ∃ M, Hid (Tg L w0 w' X n M vh vl hs ls) ∧ Hid (evE M d1 = b1E (dq N i) (dq N j) ∧ evS M d1 = Hc.pair N i j) := by
  obtain ⟨e1, e2, e3, e4⟩ := pair_ev h.tm.gl hu (by rw [h.pu.len]; exact hi) (by rw [h.pu.len]; exact hj) hij
  refine (h.does (3, i, j, 0)).mono ?_
  rintro r w' ⟨hr, hn⟩
  rw [e1, errV_zero] at hr
  exact ⟨hr, _, hn, e3, e4⟩
theorem row_at {B g n c : Nat} {v : Value} {l : List ByteArray} (h : RowT B w v l) (hv : v = .slice (some ⟨g, 0, none⟩) n c) (hl : l.length = n) {j : Nat} (hj : j < n) : w.cell? ⟨g, j, none⟩ = some (.string (l.getD j e0)) := by
  obtain ⟨p9, c9, e9, h9⟩ := row_cell h
  rw [hv] at e9
  injection e9 with e9 _ _
  obtain ⟨g9, h8, h7⟩ := h9 (by omega)
  rw [h8] at e9
  injection e9 with e9
  injection e9 with e9 _
  subst e9
  exact h7 j (by omega)
theorem Tg.cellH {g c : Nat} (h : Tg L w0 w X n N (.slice (some ⟨g, 0, none⟩) n c) vl hs ls) (hl : hs.length = n) {j : Nat} (hj : j < n) : w.cell? ⟨g, j, none⟩ = some (.string (hs.getD j e0)) := row_at h.tm.rh rfl hl hj
theorem Tg.cellL {g c : Nat} (h : Tg L w0 w X n N vh (.slice (some ⟨g, 0, none⟩) n c) hs ls) (hl : ls.length = n) {j : Nat} (hj : j < n) : w.cell? ⟨g, j, none⟩ = some (.string (ls.getD j e0)) := row_at h.tm.rl rfl hl hj
/- they are all the same: what one holds all hold -/
theorem Tg.all (h : Tg L w0 w X n N vh vl hs ls) (hs' : sameB N = true) {i j : Nat} (hi : i < hs.length) (hj : j < n) : Hold (dq N j) (hs.getD i e0) (ls.getD i e0) := by
  unfold sameB at hs'
  rw [decide_eq_true_eq] at hs'
  have hl := h.pu.lh
  have h1 := (hs' i (by rw [h.pu.len]; omega)).1
  have h2 := (hs' j (by rw [h.pu.len]; exact hj)).1
  have h3 := (h.pu.hold i hi).1
  unfold Hold at h3 ⊢
  rw [h2, ← h1]; exact h3
end

end Gm
end Go.Proofs.YtlmdchpbpgcfmaaGreatDoor
