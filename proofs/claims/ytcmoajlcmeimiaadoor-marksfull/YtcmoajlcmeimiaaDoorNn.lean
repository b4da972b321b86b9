/- What marks.Join answers where nothing is wrong. -/
import Derived.Test.YtcmoajlcmeimiaaDoorNm
import Derived.Test.YtcmoajlcmeimiaaDoorNi
namespace Go.Proofs.YtcmoajlcmeimiaaDoor
namespace Nn
set_option linter.unusedVariables false
open Go.ChangeShapes Go.WideShapes Go.ChangeAt Go.RowKit Cm Ka Kb Na Nb Nc Nd Nse Nf Nj Nk Nl Nm
open La (bel bel_drew errV_zero errV_ne own_ge own_grow own_below)

theorem clone_none (w : World) :
    Calls Tryd.prog 39 #[.slice none 0 0] w fun e w' => e = .returned (.slice none 0 0) ∧ w' = w := by
  have heq : ∀ (w : World), Sem.run Tryd.prog (binOp .eql 22 (.slice none 0 0) (.slice none 0 0)) w = .ok (.bool true) w := fun _ => by kernel_rfl
  go_enter Tryd.func39, Tryd.ntmps39
  go_wp2
  go_ret
  exact ⟨rfl, rfl⟩
theorem deleteFunc_none (A B : Nat) (p : ByteArray) (v : Value) (s : List Dt) (w : World) (hA : w.cell? ⟨A, 0, none⟩ = some (.string p)) (hB : w.cell? ⟨B, 0, none⟩ = some v) (hs : DtsAt w v s) (hsn : s.length ≤ 1048576) :
    Calls Tryd.prog 46 #[.slice none 0 0, .func (.func 47) #[] #[.pointer (some ⟨A, 0, none⟩), .pointer (some ⟨B, 0, none⟩)]] w fun e w' => e = .returned (.slice none 0 0) ∧ Below w.heap.size w w' := by
  have C := indexFunc_any none 0 0 [] A B p v s w rfl (Or.inl rfl) (by omega) hA hB hs hsn
  clear hA hB hs hsn
  go_enter Tryd.func46, Tryd.ntmps46
  go_wp2_with fail
  refine C.mono ?_
  rintro e w1 ⟨⟨z, rfl, hz⟩, hb1⟩
  have HB1 : Hid (Below w.heap.size w w1) := hb1
  rcases hz with ⟨rfl, _⟩ | ⟨k, hk, _⟩
  · clear hb1 C
    go_wp2_with fail
    go_ret
    exact ⟨rfl, HB1.out⟩
  · simp at hk

/- a clone, and what stays of it -/
theorem cloned {w w1 : World} {v : Value} {n : Nat} {l : List Mk} (ho : w1.ownsRow w.heap.size 26 3 v n (flat l)) (hb : Below w.heap.size w w1) (A B : Nat) (p : ByteArray) (vs : Value) (s : List Dt) (hA : w.cell? ⟨A, 0, none⟩ = some (.string p)) (hB : w.cell? ⟨B, 0, none⟩ = some vs) (hs : DtsAt w vs s) (hsn : s.length ≤ 1048576) (hn : n ≤ 1048576) :
    Calls Tryd.prog 46 #[v, .func (.func 47) #[] #[.pointer (some ⟨A, 0, none⟩), .pointer (some ⟨B, 0, none⟩)]] w1 fun e w' => ∃ v', e = .returned v' ∧ MksNew w.heap.size w' v' (stays p s l) ∧ Below w.heap.size w w' := by
  obtain ⟨hl, q, c, rfl, hlf⟩ := own_marks ho
  rcases ho.2 with ⟨e, e0⟩ | ⟨g, cap, cur, e, hg, hcur, h3, h4, _⟩
  · injection e with e1 e2 e3
    subst e1 e2 e3
    have hl0 : l = [] := List.eq_nil_of_length_eq_zero hl
    subst hl0
    refine (deleteFunc_none A B p vs s w1 (keep_cell hb hA) (keep_cell hb hB) (hs.below hb) hsn).mono ?_
    rintro e w' ⟨rfl, hb2⟩
    exact ⟨_, rfl, MksNew.nil _ _, bel hb hb2⟩
  · injection e with e1 e2 e3
    subst e1 e3
    have hgw : g < w1.heap.size := by
      rcases Nat.lt_or_ge g w1.heap.size with e | e
      · exact e
      · rw [Array.getElem?_eq_none e] at hcur; cases hcur
    have hcs : ∀ j, j < l.length → MAt w1 g 0 j (l.getD j none1) := by
      rcases hlf with h0 | ⟨b, o, hp, hc⟩
      · subst h0; intro j hj; simp at hj
      · injection hp with hp
        injection hp with hp1 hp2
        subst hp1 hp2
        exact hc
    exact deleteFunc_any w w1 g n c l A B p vs s hl hcs (fun o => by simp [World.frozen?, hcur]) hg hgw hb hn h3 h4 hA hB hs hsn

set_option maxRecDepth 100000 in
set_option maxHeartbeats 2000000 in
theorem join_loc (v : Value) (l : List Mk) (p : ByteArray) (vs : Value) (s : List Dt) (w : World) (h : MksAt w v l) (hs : ∀ x ∈ l, x.1.size ≤ maxLen) (hp : p.size ≤ maxLen) (hd : DtsAt w vs s) (h0 : joinE l p s = 0) :
    Calls Tryd.prog 20 #[v, .string p, vs] w fun e w' => ∃ v', e = .returned (.tuple #[v', .nilIface]) ∧ MksNew w.heap.size w' v' (without l p s) ∧ Below w.heap.size w w' := by
  obtain ⟨j1, j2, j3⟩ := joinE_zero.1 h0
  obtain ⟨m1, _⟩ := seenE_zero.1 j1
  obtain ⟨hl40, _, _⟩ := marksE_zero.1 m1
  have hb1 : Below w.heap.size w ((w.alloc (.cells #[.string p] 9)).alloc (.cells #[vs] 27)) := ((Below.refl _ w).alloc (Nat.le_refl _) _).alloc (by simp) _
  have C := checkMWith_any v l p _ (h.below hb1) hs hp
  rw [j1, errV_zero] at C
  have HC2 : Hid (∀ w2, Below w.heap.size w w2 → Calls Tryd.prog 45 #[vs] w2 fun e w' => e = .returned .nilIface ∧ Below w2.heap.size w2 w') := fun w2 hb => by
    have := checkSeen_any vs s w2 (hd.below hb)
    rw [sawE_zero j2 j3, errV_zero] at this; exact this
  have HCL : Hid (∀ w2, Below w.heap.size w w2 → Calls Tryd.prog 39 #[v] w2 fun e w' => ∃ v', e = .returned v' ∧ w'.ownsRow w2.heap.size 26 3 v' l.length (flat l) ∧ Below w2.heap.size w2 w') := fun w2 hb => by
    have h2 := h.below hb
    obtain ⟨q, c, rfl, hlf, hc, hcm, hqc⟩ := h2
    cases q with
    | none =>
      have hc0 := hqc rfl
      subst hc0
      have hl0 : l = [] := List.eq_nil_of_length_eq_zero (by omega)
      subst hl0
      refine (clone_none w2).mono ?_
      rintro e w' ⟨rfl, rfl⟩
      exact ⟨_, rfl, World.ownsRow_nil _ _ _ _, Below.refl _ _⟩
    | some ad =>
      refine clone_any ad l.length c l w2 rfl (by omega) (fun j u hu => ?_)
      rcases hlf with e0 | ⟨b, o, hp2, hcs⟩
      · subst e0; simp [flat] at hu
      · injection hp2 with hp2
        subst hp2
        rw [Addr.add_lit]; exact at_flat hcs j u hu
  have HDF : Hid (∀ w2 w3 v3, Below w.heap.size w w2 → w2.cell? ⟨w.heap.size, 0, none⟩ = some (.string p) → w2.cell? ⟨w.heap.size + 1, 0, none⟩ = some vs → w3.ownsRow w2.heap.size 26 3 v3 l.length (flat l) → Below w2.heap.size w2 w3 → Calls Tryd.prog 46 #[v3, .func (.func 47) #[] #[.pointer (some ⟨w.heap.size, 0, none⟩), .pointer (some ⟨w.heap.size + 1, 0, none⟩)]] w3 fun e w' => ∃ v', e = .returned v' ∧ MksNew w2.heap.size w' v' (stays p s l) ∧ Below w2.heap.size w2 w') :=
    fun w2 w3 v3 hb hA hB ho hb3 => cloned ho hb3 _ _ p vs s hA hB (hd.below hb) (by omega) (by omega)
  have HST : Hid (without l p s = stays p s l) := rfl
  have HW0 : Hid (∀ w2, Below ((w.alloc (.cells #[.string p] 9)).alloc (.cells #[vs] 27)).heap.size ((w.alloc (.cells #[.string p] 9)).alloc (.cells #[vs] 27)) w2 → w2.cell? ⟨w.heap.size, 0, none⟩ = some (.string p) ∧ w2.cell? ⟨w.heap.size + 1, 0, none⟩ = some vs) := fun w2 hb => by
    have e1 : ((w.alloc (.cells #[.string p] 9)).alloc (.cells #[vs] 27)).heap[w.heap.size]? = some (.cells #[.string p] 9) := by
      have := heap_alloc_old (w.alloc (.cells #[.string p] 9)) (.cells #[vs] 27) (show w.heap.size < _ by simp)
      exact this.trans (heap_alloc_new w _)
    have e2 : ((w.alloc (.cells #[.string p] 9)).alloc (.cells #[vs] 27)).heap[w.heap.size + 1]? = some (.cells #[vs] 27) := by
      have := heap_alloc_new (w.alloc (.cells #[.string p] 9)) (.cells #[vs] 27)
      rwa [show (w.alloc (.cells #[.string p] 9)).heap.size = w.heap.size + 1 by simp] at this
    refine ⟨keep_cell hb ?_, keep_cell hb ?_⟩
    · simp only [World.cell?, e1]; rfl
    · simp only [World.cell?, e2]; rfl
  have HB1 : Hid (Below w.heap.size w ((w.alloc (.cells #[.string p] 9)).alloc (.cells #[vs] 27))) := hb1
  obtain ⟨q, c, rfl, _⟩ := h
  obtain ⟨qs, cs, rfl, _⟩ := hd
  obtain ⟨n, hn⟩ : ∃ n, n = l.length := ⟨_, rfl⟩
  obtain ⟨m, hm⟩ : ∃ m, m = s.length := ⟨_, rfl⟩
  rw [← hn] at C HCL
  rw [← hm] at C HC2 HDF HW0 HB1
  rw [← hn, ← hm]
  rw [← hn] at HDF
  clear hs hp h0 j1 j2 j3 m1 hl40 hb1 hn hm
  go_enter Tryd.func20, Tryd.ntmps20
  go_wp2_with fail
  refine C.mono ?_
  rintro e w2 ⟨rfl, hb2⟩
  have HB2 : Hid (Below w.heap.size w w2) := bel HB1.out hb2
  obtain ⟨d0, d1⟩ := HW0.out w2 hb2
  clear hb2 C
  have C2 := HC2.out w2 HB2.out
  go_wp2_with fail
  refine C2.mono ?_
  rintro e w3 ⟨rfl, hb3⟩
  have HB3 : Hid (Below w.heap.size w w3) := bel HB2.out hb3
  have HE : Hid (w3.cell? ⟨w.heap.size, 0, none⟩ = some (.string p) ∧ w3.cell? ⟨w.heap.size + 1, 0, none⟩ = some (.slice qs m cs)) := ⟨keep_cell hb3 d0, keep_cell hb3 d1⟩
  clear hb3 C2 d0 d1
  have C3 := HCL.out w3 HB3.out
  go_wp2_with fail
  refine C3.mono ?_
  rintro e w4 ⟨v4, rfl, ho4, hb4⟩
  have C4 := HDF.out w3 w4 v4 HB3.out HE.out.1 HE.out.2 ho4 hb4
  clear C3 ho4 hb4
  go_wp2_with fail
  refine C4.mono ?_
  rintro e w5 ⟨v5, rfl, hk5, hb5⟩
  have HB5 : Hid (Below w.heap.size w w5) := bel HB3.out hb5
  have HK5 : Hid (MksNew w.heap.size w5 v5 (stays p s l)) := hk5.mono HB3.out.size
  clear C4 hk5 hb5
  go_wp2_with fail
  go_ret2
  exact ⟨_, rfl, by rw [HST.out]; exact HK5.out, HB5.out⟩
theorem join_ok (v : Value) (l : List Mk) (p : ByteArray) (vs : Value) (s : List Dt) (w : World) (h : MksAt w v l) (hs : ∀ x ∈ l, x.1.size ≤ maxLen) (hp : p.size ≤ maxLen) (hd : DtsAt w vs s) (h0 : joinE l p s = 0) :
    Calls Tryd.prog 20 #[v, .string p, vs] w fun e w' => ∃ v', e = .returned (.tuple #[v', .nilIface]) ∧ MksAt w' v' (without l p s) ∧ Below w.heap.size w w' :=
  (join_loc v l p vs s w h hs hp hd h0).mono fun e w' ⟨v', h1, h2, h3⟩ => ⟨v', h1, h2.1, h3⟩

end Nn
end Go.Proofs.YtcmoajlcmeimiaaDoor
