/- What slices.IndexFunc and slices.DeleteFunc with the closure of Join answer; what clear does to a row of structs. -/
import Derived.Test.YtcmoajlcmeimiaaDoorNk
import Derived.Test.YtcmoajlcmeimiaaDoorNf
import Derived.Laws.IdiomCopy
import Derived.Tactics
namespace Go.Proofs.YtcmoajlcmeimiaaDoor
namespace Nl
set_option linter.unusedVariables false
open Go.ChangeShapes Go.WideShapes Go.ChangeAt Go.RowKit Cm Ka Kb Na Nb Nc Nd Nj Nk
open La (bel bel_drew errV_zero errV_ne own_ge own_grow own_below)

/- clear of a slice of n elements, however many cells each has -/
theorem run_clear {P : Program} (w : World) (t e ty : TypeId) (z : Value) (ht : P.underlying t = some (.slice e)) (hv : ∀ w, (zeroValue e).run P w = .ok z w) (h0 : 0 < z.cells.size) (h1 : ∀ u ∈ z.cells.toList, u.oneCell' = true) (b o n c : Nat) (hn : 0 < n)
    (hc : ∀ j, j < n * z.cells.size → (w.cell? ⟨b, o + j, none⟩).isSome = true) (hf : ∀ j, w.frozen? ⟨b, j, none⟩ = false) :
    (Builtin.clear_ #[t] ty #[.slice (some ⟨b, o, none⟩) n c]).run P w = .ok (.tuple #[]) (w.setCells b o (Builtin.zeroCells z.cells n).toList) := by
  have hlen : (Builtin.zeroCells z.cells n).toList.length = n * z.cells.size := by rw [Array.length_toList, size_zeroCells]
  have hone : ∀ v ∈ (Builtin.zeroCells z.cells n).toList, v.oneCell' = true := by
    intro v hv
    simp only [Builtin.zeroCells, Array.toList_map, List.mem_map] at hv
    obtain ⟨i, _, rfl⟩ := hv
    have hi : i % z.cells.size < z.cells.size := Nat.mod_lt _ h0
    rw [getElem!_pos z.cells _ hi]
    exact h1 _ (by rw [Array.mem_toList_iff]; exact Array.getElem_mem hi)
  have hst := run_storeCells_cells (P := P) b o (Builtin.zeroCells z.cells n).toList 0 w (by intro j hj; rw [hlen] at hj; exact hc j hj) (by intro j _; exact hf _) hone
  simp only [Nat.add_zero] at hst
  obtain ⟨m, rfl⟩ : ∃ m, n = m + 1 := ⟨n - 1, by omega⟩
  simp [Builtin.clear_, run_underlying ht, hv, hst]
theorem below_setCells {B b : Nat} {a : World} (hb : B ≤ b) : ∀ (vs : List Value) (o : Nat) (w : World), Below B a w → Below B a (w.setCells b o vs)
  | [], _, _, h => h
  | v :: r, o, w, h => below_setCells hb r (o + 1) _ (h.setCell (p := ⟨b, o, none⟩) hb v)

/- where the first mark is that was seen; -1 if there is none -/
def FirstAt (p : ByteArray) (s : List Dt) (l : List Mk) (z : Int) : Prop := (z = -1 ∧ ∀ j, j < l.length → gone p s (l.getD j none1) = false) ∨ ∃ k : Nat, k < l.length ∧ z = k ∧ gone p s (l.getD k none1) = true ∧ ∀ j, j < k → gone p s (l.getD j none1) = false

set_option maxHeartbeats 1000000 in
theorem indexFunc_any (q : Option Addr) (n c : Nat) (l : List Mk) (A B : Nat) (p : ByteArray) (v : Value) (s : List Dt) (w : World) (hl : l.length = n) (h : MarksIn w q l) (hn : n ≤ 1048576) (hA : w.cell? ⟨A, 0, none⟩ = some (.string p)) (hB : w.cell? ⟨B, 0, none⟩ = some v) (hs : DtsAt w v s) (hsn : s.length ≤ 1048576) :
    Calls Tryd.prog 69 #[.slice q n c, .func (.func 47) #[] #[.pointer (some ⟨A, 0, none⟩), .pointer (some ⟨B, 0, none⟩)]] w fun e w' => (∃ z, e = .returned (.int .i64 z) ∧ FirstAt p s l z) ∧ Below w.heap.size w w' := by
  have HL : Hid (l.length = n) := hl
  have HI : Hid (MarksIn w q l) := h
  have HC : Hid (∀ wr, Below w.heap.size w wr → ∀ sx x1 x2, Calls Tryd.prog 47 #[.agg #[.string sx, .int .i64 x1, .int .i64 x2], .pointer (some ⟨A, 0, none⟩), .pointer (some ⟨B, 0, none⟩)] wr fun e w' => e = .returned (.bool (gone p s (sx, (x1, x2)))) ∧ Below wr.heap.size wr w') :=
    fun wr hb sx x1 x2 => closure_any sx x1 x2 A B p v s wr (keep_cell hb hA) (keep_cell hb hB) (hs.below hb) hsn
  clear hl h hA hB hs hsn
  go_enter Tryd.func69, Tryd.ntmps69
  go_wp2
  go_loopw [8] (fun vi wr => ∃ (k : Nat), k ≤ n ∧ vi = .int .i64 k ∧ Hid (∀ j, j < k → gone p s (l.getD j none1) = false) ∧ Hid (Below w.heap.size w wr)) (fun vi _ => n - (intOf vi).toNat)
  case atStart => exact ⟨0, by omega, rfl, fun j hj => absurd hj (by omega), Below.refl _ _⟩
  case round =>
    obtain ⟨k, hk, rfl, H1, HB⟩ := hrel
    by_cases hlt : k < n
    · have hltz : (k : Int) < n := by omega
      obtain ⟨b, o, rfl, hc⟩ := HI.out.some (by intro e; have := HL.out; rw [e] at this; simp at this; omega)
      have hkl : k < l.length := by rw [HL.out]; exact hlt
      have ha := (hc k hkl).below HB.out (hc k hkl).lt
      obtain ⟨x, hx⟩ : ∃ x, x = l.getD k none1 := ⟨_, rfl⟩
      rw [← hx] at ha
      have HX : Hid (x = l.getD k none1) := hx
      obtain ⟨sx, x1, x2⟩ := x
      obtain ⟨a1, a2, a3⟩ := ha
      simp only at a1 a2 a3
      clear hc hx
      have C := HC.out wr HB.out sx x1 x2
      cases hg : gone p s (sx, (x1, x2))
      · rw [hg] at C
        have H3 : Hid (∀ j, j < k + 1 → gone p s (l.getD j none1) = false) := by
          intro j hj
          rcases Nat.lt_succ_iff_lt_or_eq.1 hj with h | rfl
          · exact H1.out j h
          · rw [← HX.out]; exact hg
        clear hg
        go_wp2_with fail
        refine C.mono ?_
        rintro e w2 ⟨rfl, hb2⟩
        have HB2 : Hid (Below w.heap.size w w2) := bel HB.out hb2
        clear hb2 C
        go_wp2_with fail
        go_roundw
        case rel => exact ⟨k + 1, by omega, by go_num, H3, HB2⟩
        case measure => simp [intOf]; omega
      · rw [hg] at C
        have H3 : Hid (FirstAt p s l (k : Int)) := Or.inr ⟨k, hkl, rfl, by rw [← HX.out]; exact hg, H1.out⟩
        clear hg
        go_wp2_with fail
        refine C.mono ?_
        rintro e w2 ⟨rfl, hb2⟩
        have HB2 : Hid (Below w.heap.size w w2) := bel HB.out hb2
        clear hb2 C
        go_wp2_with fail
        go_ret
        exact ⟨⟨_, rfl, H3.out⟩, HB2.out⟩
    · obtain rfl : k = n := by omega
      have H3 : Hid (FirstAt p s l (-1)) := Or.inl ⟨rfl, fun j hj => H1.out j (by rw [← HL.out]; exact hj)⟩
      go_wp2_with fail
      go_ret
      exact ⟨⟨_, rfl, H3.out⟩, HB.out⟩

end Nl
end Go.Proofs.YtcmoajlcmeimiaaDoor
