/- What the laws ask of package net: a net in memory, and each call's answer, at all inputs. -/
import Derived.Test.YthalakfphecflaaGreatDoorHc
import Derived.Test.YthalakfphecflaaGreatDoorJ13
namespace Go.Proofs.YthalakfphecflaaGreatDoor
namespace Hd
set_option linter.unusedVariables false
open Go.ChangeShapes Go.WideShapes Go.ChangeAt Go.RowKit Cm Ka Kb Na Om Oa Oz Oc Og Oi Hm Ia Aa Hc
open La (bel bel_drew errV_zero errV_ne own_ge own_grow own_below Lies)

theorem Hid.mk' {p : Prop} (h : p) : Hid p := h
abbrev ptr (X : Nat) : Value := .pointer (some ⟨X, 0, none⟩)
/- have all the same book, and marks? -/
def sameB (N : Nt) : Bool := decide (∀ i, i < N.ds.length → (dq N i).book = (dq N 0).book ∧ (dq N i).marks = (dq N 0).marks)
abbrev evV (e : Ev) : Value := .agg #[.int .i64 e.1, .int .i64 e.2.1, .int .i64 e.2.2.1, .int .i64 e.2.2.2]
structure NetSays where
  At : World → Nat → Nt → (Nat → Prop) → Prop
  und : World → Nat → Nat
  und_eq : ∀ {w : World} {X : Nat} {N : Nt} {F : Nat → Prop}, At w X N F → und w X = N.us.length
  lt : ∀ {w : World} {X : Nat} {N : Nt} {F : Nat → Prop}, At w X N F → ∀ g, F g → g < w.heap.size
  stay : ∀ {w w' : World} {X : Nat} {N : Nt} {F : Nat → Prop}, At w X N F → Stay F w w' → w.heap.size ≤ w'.heap.size → At w' X N F
  new : ∀ (n : Nat) (w : World), 1 ≤ n → n ≤ 4 → Calls Tryz.prog 6 #[.int .i64 n] w fun e w' => ∃ X F, e = .returned (.tuple #[ptr X, .nilIface]) ∧ At w' X (nw n) F ∧ (∀ g, F g → w.heap.size ≤ g) ∧ Below w.heap.size w w'
  none : ∀ (n : Int) (w : World), (n < 1 ∨ 4 < n) → Calls Tryz.prog 6 #[.int .i64 n] w fun e w' => e = .returned (.tuple #[.pointer none, errV 1]) ∧ Below w.heap.size w w'
  does : ∀ (X : Nat) (N : Nt) (F : Nat → Prop) (e : Ev) (w : World), At w X N F → Gl N → N.us.length ≤ 100 → Calls Tryz.prog 7 #[ptr X, evV e] w fun r w' => r = .returned (errV (evE N e)) ∧ ∃ F', At w' X (evS N e) F' ∧ Chg F w w' ∧ ∀ g, F' g → F g ∨ w.heap.size ≤ g
/- what one law asks, and another one does not -/
structure NetUnder (L : NetSays) : Prop where
  under : ∀ (X : Nat) (N : Nt) (F : Nat → Prop) (w : World), L.At w X N F → N.us.length ≤ 100 → Calls Tryz.prog 9 #[ptr X] w fun e w' => e = .returned (.int .i64 N.us.length) ∧ Below w.heap.size w w'
structure NetSame (L : NetSays) : Prop where
  same : ∀ (X : Nat) (N : Nt) (F : Nat → Prop) (w : World), L.At w X N F → Gl N → 1 ≤ N.ds.length → Calls Tryz.prog 8 #[ptr X] w fun e w' => e = .returned (.bool (sameB N)) ∧ Below w.heap.size w w'
theorem NetSays.below (L : NetSays) {w w' : World} {X : Nat} {N : Nt} {F : Nat → Prop} (h : L.At w X N F) (hb : Below w.heap.size w w') : L.At w' X N F := L.stay h (fun g hg => hb.block g (L.lt h g hg)) hb.size
/- one net, from block B on -/
structure Nc (L : NetSays) (w0 w : World) (X : Nat) (N : Nt) : Prop where
  at' : ∃ F, L.At w X N F ∧ ∀ g, F g → w0.heap.size ≤ g
  gl : Gl N
  few : N.us.length ≤ 100
  bel : Below w0.heap.size w0 w
theorem us_ev {N : Nt} (h : N.us.length ≤ 100) (e : Ev) : (evS N e).us.length ≤ 100 := by
  unfold evS
  split
  · split
    · exact h
    · split <;> exact h
  · split
    · split
      · exact h
      · split
        · exact h
        · split
          · exact h
          · show (N.us ++ [_]).length ≤ 100
            rw [List.length_append, List.length_singleton]; omega
    · split
      · split
        · exact h
        · split
          · split
            · exact h
            · show (N.us ++ [_]).length ≤ 100
              rw [List.length_append, List.length_singleton]; omega
          · split
            · exact Nat.le_trans (List.length_eraseIdx_le ..) h
            · exact Nat.le_trans (List.length_eraseIdx_le ..) h
      · exact h
theorem Nc.below {L : NetSays} {w0 w w' : World} {X : Nat} {N : Nt} (h : Nc L w0 w X N) (hb : Below w.heap.size w w') : Nc L w0 w' X N := by
  obtain ⟨F, h1, h2⟩ := h.at'
  exact ⟨⟨F, L.below h1 hb, h2⟩, h.gl, h.few, La.bel h.bel hb⟩
/- an event -/
theorem Nc.does {L : NetSays} {w0 w : World} {X : Nat} {N : Nt} (h : Nc L w0 w X N) (e : Ev) : Calls Tryz.prog 7 #[ptr X, evV e] w fun r w' => r = .returned (errV (evE N e)) ∧ Hid (Nc L w0 w' X (evS N e)) := by
  obtain ⟨F, h1, h2⟩ := h.at'
  refine (L.does X N F e w h1 h.gl h.few).mono ?_
  rintro r w' ⟨hr, F', q1, q2, q3⟩
  refine ⟨hr, ⟨F', q1, fun g hg => ?_⟩, (h.gl.ev e).1, us_ev h.few e, q2.below h2 h.bel h.bel.size⟩
  rcases q3 g hg with e9 | e9
  · exact h2 g e9
  · have := h.bel.size; omega
theorem Nc.under {L : NetSays} (U : NetUnder L) {w0 w : World} {X : Nat} {N : Nt} (h : Nc L w0 w X N) : Calls Tryz.prog 9 #[ptr X] w fun r w' => r = .returned (.int .i64 N.us.length) ∧ Hid (Nc L w0 w' X N) := by
  obtain ⟨F, h1, h2⟩ := h.at'
  exact (U.under X N F w h1 h.few).mono fun r w' ⟨hr, hb⟩ => ⟨hr, h.below hb⟩
theorem Nc.same {L : NetSays} (U : NetSame L) {w0 w : World} {X : Nat} {N : Nt} (h : Nc L w0 w X N) (hn : 1 ≤ N.ds.length) : Calls Tryz.prog 8 #[ptr X] w fun r w' => r = .returned (.bool (sameB N)) ∧ Hid (Nc L w0 w' X N) := by
  obtain ⟨F, h1, h2⟩ := h.at'
  exact (U.same X N F w h1 h.gl hn).mono fun r w' ⟨hr, hb⟩ => ⟨hr, h.below hb⟩
theorem Nc.und {L : NetSays} {w0 w : World} {X : Nat} {N : Nt} (h : Nc L w0 w X N) : L.und w X = N.us.length := by
  obtain ⟨F, h1, h2⟩ := h.at'
  exact L.und_eq h1
theorem nc_new (L : NetSays) {w0 w : World} (hb0 : Below w0.heap.size w0 w) {n : Nat} (h1 : 1 ≤ n) (h4 : n ≤ 4) : Calls Tryz.prog 6 #[.int .i64 n] w fun e w' => ∃ X, e = .returned (.tuple #[ptr X, .nilIface]) ∧ Hid (Nc L w0 w' X (nw n)) :=
  (L.new n w h1 h4).mono fun e w' ⟨X, F, he, ha, hf, hb⟩ => ⟨X, he, ⟨F, ha, fun g hg => Nat.le_trans hb0.size (hf g hg)⟩, gl_nw h4, Nat.zero_le _, La.bel hb0 hb⟩

/- NetMeets: how it opens -/
def t1 : Ev := (1, 0, 0, 104)
def s1 : Ev := (3, 0, 1, 0)
def d1 : Ev := (4, 0, 0, 0)
theorem open_type : evE (nw 2) t1 = 0 ∧ sameB (evS (nw 2) t1) = false := by
  constructor
  · kernel_rfl
  · unfold sameB
    rw [decide_eq_false]
    intro h
    have hl : (evS (nw 2) t1).ds.length = 2 := by kernel_rfl
    have h1 := congrArg List.length (h 1 (by omega)).1
    have h2 : (dq (evS (nw 2) t1) 1).book.length = 0 := by kernel_rfl
    have h3 : (dq (evS (nw 2) t1) 0).book.length = 1 := by kernel_rfl
    omega
theorem open_send : evE (evS (nw 2) t1) s1 = 0 ∧ evE (evS (evS (nw 2) t1) s1) d1 = 0 ∧ sameB (evS (evS (evS (nw 2) t1) s1) d1) = true := by
  refine ⟨by kernel_rfl, by kernel_rfl, ?_⟩
  unfold sameB
  rw [decide_eq_true_eq]
  intro i hi
  have hl : (evS (evS (evS (nw 2) t1) s1) d1).ds.length = 2 := by kernel_rfl
  rw [hl] at hi
  have h2 : (dq (evS (evS (evS (nw 2) t1) s1) d1) 1).book = (dq (evS (evS (evS (nw 2) t1) s1) d1) 0).book := by kernel_rfl
  have h3 : (dq (evS (evS (evS (nw 2) t1) s1) d1) 1).marks = (dq (evS (evS (evS (nw 2) t1) s1) d1) 0).marks := by kernel_rfl
  rcases i with _ | i
  · exact ⟨rfl, rfl⟩
  · obtain rfl : i = 0 := by omega
    exact ⟨h2, h3⟩
theorem open_len : 1 ≤ (evS (nw 2) t1).ds.length ∧ 1 ≤ (evS (evS (evS (nw 2) t1) s1) d1).ds.length := by
  have h1 : (evS (nw 2) t1).ds.length = 2 := by kernel_rfl
  have h2 : (evS (evS (evS (nw 2) t1) s1) d1).ds.length = 2 := by kernel_rfl
  omega
/- a parcel less -/
theorem less_us {N : Nt} (h : 0 < N.us.length) : (evS N d1).us.length + 1 = N.us.length := by
  unfold evS
  show (if isEd 4 = true then _ else if (4 : Int) = 3 then _ else if isCo 4 = true then _ else _ : Nt).us.length + 1 = _
  rw [if_neg (by decide), if_neg (by decide), if_pos (by decide), if_neg (by unfold out; show ¬ ((0 : Int) < 0 ∨ (N.us.length : Int) ≤ 0); omega), if_neg (by decide), if_neg (by decide)]
  show (N.us.eraseIdx 0).length + 1 = _
  rw [List.length_eraseIdx_of_lt h]; omega
theorem same_sent {N0 N : Nt} {a b : Nat} (s : Sent N0 N a b) (ha : N.ds.length ≤ a) : sameB N = true := by
  unfold sameB
  rw [decide_eq_true_eq]
  intro i hi
  have h := s.same ha hi (j := 0) (by omega)
  exact ⟨h.1, h.2.1⟩

/- events that came in -/
def EvsIn (w : World) (p : Option Addr) (l : List Ev) : Prop := l = [] ∨ ∃ b o, p = some ⟨b, o, none⟩ ∧ ∀ j, j < l.length → w.cell? ⟨b, o + j * 4, none⟩ = some (.int .i64 (l.getD j (0, 0, 0, 0)).1) ∧ w.cell? ⟨b, o + j * 4 + 1, none⟩ = some (.int .i64 (l.getD j (0, 0, 0, 0)).2.1) ∧ w.cell? ⟨b, o + j * 4 + 2, none⟩ = some (.int .i64 (l.getD j (0, 0, 0, 0)).2.2.1) ∧ w.cell? ⟨b, o + j * 4 + 3, none⟩ = some (.int .i64 (l.getD j (0, 0, 0, 0)).2.2.2)
theorem EvsIn.some {w : World} {p : Option Addr} {l : List Ev} (h : EvsIn w p l) {j : Nat} (hj : j < l.length) : ∃ b o, p = some ⟨b, o, none⟩ ∧ ∀ W : World, Below w.heap.size w W → W.cell? ⟨b, o + j * 4, none⟩ = some (.int .i64 (l.getD j (0, 0, 0, 0)).1) ∧ W.cell? ⟨b, o + j * 4 + 1, none⟩ = some (.int .i64 (l.getD j (0, 0, 0, 0)).2.1) ∧ W.cell? ⟨b, o + j * 4 + 2, none⟩ = some (.int .i64 (l.getD j (0, 0, 0, 0)).2.2.1) ∧ W.cell? ⟨b, o + j * 4 + 3, none⟩ = some (.int .i64 (l.getD j (0, 0, 0, 0)).2.2.2) := by
  rcases h with h | ⟨b, o, hp, hc⟩
  · rw [h] at hj; simp at hj
  · obtain ⟨h0, h1, h2, h3⟩ := hc j hj
    exact ⟨b, o, hp, fun W hb => ⟨keep_cell hb h0, keep_cell hb h1, keep_cell hb h2, keep_cell hb h3⟩⟩
/- NetMeets' last phase: one sends to another one, and it comes -/
theorem Nc.pair {L : NetSays} {w0 w : World} {X : Nat} {N : Nt} (h : Nc L w0 w X N) (hu : N.us = []) {i j : Nat} (hi : i < N.ds.length) (hj : j < N.ds.length) (hij : i ≠ j) :
    Calls Tryz.prog 7 #[ptr X, .agg #[.int .i64 3, .int .i64 i, .int .i64 j, .int .i64 0]] w fun r w' => r = .returned .nilIface ∧ ∃ M, Hid (Nc L w0 w' X M) ∧ Hid (evE M d1 = b1E (dq N i) (dq N j) ∧ evS M d1 = Hc.pair N i j) := by
  obtain ⟨e1, e2, e3, e4⟩ := pair_ev h.gl hu hi hj hij
  refine (h.does (3, i, j, 0)).mono ?_
  rintro r w' ⟨hr, hn⟩
  rw [e1, errV_zero] at hr
  exact ⟨hr, _, hn, e3, e4⟩

end Hd
end Go.Proofs.YthalakfphecflaaGreatDoor
