/- What slices.DeleteFunc with the closure of Join answers, of a row of the call's own. -/
import Derived.Test.YtcmoajlcmeimiaaDoorNl
namespace Go.Proofs.YtcmoajlcmeimiaaDoor
namespace Nm
set_option linter.unusedVariables false
open Go.ChangeShapes Go.WideShapes Go.ChangeAt Go.RowKit Cm Ka Kb Na Nb Nc Nd Nj Nk Nl
open La (bel bel_drew errV_zero errV_ne own_ge own_grow own_below)

/- a mark of a row of the call's own, written anew -/
theorem set_mark {w : World} {g i : Nat} {l : List Mk} {x : Mk} (hi : i < l.length) (hc : ∀ j, j < l.length → MAt w g 0 j (l.getD j none1)) :
    ∀ j, j < (l.set i x).length → MAt (((w.setCell ⟨g, i * 3, none⟩ (.string x.1)).setCell ⟨g, i * 3 + 1, none⟩ (.int .i64 x.2.1)).setCell ⟨g, i * 3 + 2, none⟩ (.int .i64 x.2.2)) g 0 j ((l.set i x).getD j none1) := by
  intro j hj
  rw [List.length_set] at hj
  by_cases h : j = i
  · subst h
    have e : (l.set j x).getD j none1 = x := by rw [List.getD_eq_getElem?_getD, List.getElem?_set_self hj]; rfl
    obtain ⟨a1, a2, a3⟩ := hc j hj
    rw [Nat.zero_add] at a1 a2 a3
    rw [e]
    unfold MAt
    rw [Nat.zero_add]
    have n1 : (⟨g, j * 3, none⟩ : Addr) ≠ ⟨g, j * 3 + 1, none⟩ := by intro e; injection e; omega
    have n2 : (⟨g, j * 3, none⟩ : Addr) ≠ ⟨g, j * 3 + 2, none⟩ := by intro e; injection e; omega
    have n3 : (⟨g, j * 3 + 1, none⟩ : Addr) ≠ ⟨g, j * 3 + 2, none⟩ := by intro e; injection e; omega
    refine ⟨?_, ?_, ?_⟩
    · rw [World.cell?_setCell_other _ _ _ _ n2.symm, World.cell?_setCell_other _ _ _ _ n1.symm, World.cell?_setCell_same _ _ _ a1]
    · rw [World.cell?_setCell_other _ _ _ _ n3.symm]
      obtain ⟨u, hu⟩ := cell?_setCell_some (x := .string x.1) (p := ⟨g, j * 3, none⟩) a2
      rw [World.cell?_setCell_same _ _ _ hu]
    · obtain ⟨u, hu⟩ := cell?_setCell_some (x := .string x.1) (p := ⟨g, j * 3, none⟩) a3
      obtain ⟨u2, hu2⟩ := cell?_setCell_some (x := .int .i64 x.2.1) (p := ⟨g, j * 3 + 1, none⟩) hu
      rw [World.cell?_setCell_same _ _ _ hu2]
  · have e : (l.set i x).getD j none1 = l.getD j none1 := by rw [List.getD_eq_getElem?_getD, List.getD_eq_getElem?_getD, List.getElem?_set_ne (by omega)]
    rw [e]
    obtain ⟨a1, a2, a3⟩ := hc j hj
    unfold MAt
    refine ⟨?_, ?_, ?_⟩
    · rw [World.cell?_setCell_other _ _ _ _ (by intro e; injection e; omega), World.cell?_setCell_other _ _ _ _ (by intro e; injection e; omega), World.cell?_setCell_other _ _ _ _ (by intro e; injection e; omega)]; exact a1
    · rw [World.cell?_setCell_other _ _ _ _ (by intro e; injection e; omega), World.cell?_setCell_other _ _ _ _ (by intro e; injection e; omega), World.cell?_setCell_other _ _ _ _ (by intro e; injection e; omega)]; exact a2
    · rw [World.cell?_setCell_other _ _ _ _ (by intro e; injection e; omega), World.cell?_setCell_other _ _ _ _ (by intro e; injection e; omega), World.cell?_setCell_other _ _ _ _ (by intro e; injection e; omega)]; exact a3


def stays (p : ByteArray) (s : List Dt) (l : List Mk) : List Mk := l.filter fun x => !gone p s x
theorem stays_all {p : ByteArray} {s : List Dt} {l : List Mk} (h : ∀ j, j < l.length → gone p s (l.getD j none1) = false) : stays p s l = l := by
  unfold stays
  rw [List.filter_eq_self]
  intro x hx
  obtain ⟨j, hj, e⟩ := List.mem_iff_getElem.1 hx
  have := h j hj
  rw [List.getD_eq_getElem?_getD, List.getElem?_eq_getElem hj] at this
  simp only [Option.getD_some] at this
  rw [e] at this; simp [this]
theorem take_next {l : List Mk} {k : Nat} (hk : k < l.length) : l.take (k + 1) = l.take k ++ [l.getD k none1] := by
  rw [List.getD_eq_getElem?_getD, List.getElem?_eq_getElem hk, List.take_add_one, List.getElem?_eq_getElem hk]; rfl
theorem stays_next {p : ByteArray} {s : List Dt} {l : List Mk} {k : Nat} (hk : k < l.length) : stays p s (l.take (k + 1)) = if gone p s (l.getD k none1) then stays p s (l.take k) else stays p s (l.take k) ++ [l.getD k none1] := by
  unfold stays
  rw [take_next hk, List.filter_append]
  cases h : gone p s (l.getD k none1)
  · simp only [List.filter_cons, h, List.filter_nil]; simp
  · simp only [List.filter_cons, h, List.filter_nil]; simp
/- a row whose first i are those that stay of the first j, and whose rest is as it was -/
def Row (w : World) (g n i j : Nat) (K : List Mk) (l : List Mk) : Prop := ∃ R : List Mk, R.length = n ∧ (∀ x, x < R.length → MAt w g 0 x (R.getD x none1)) ∧ R.take i = K ∧ R.drop j = l.drop j
theorem Row.below {w w' : World} {g n i j : Nat} {K l : List Mk} (h : Row w g n i j K l) (hb : Below w.heap.size w w') : Row w' g n i j K l := by
  obtain ⟨R, h1, h2, h3, h4⟩ := h
  exact ⟨R, h1, fun x hx => (h2 x hx).below hb (h2 x hx).lt, h3, h4⟩
theorem Row.at {w : World} {g n i j : Nat} {K l : List Mk} (h : Row w g n i j K l) (hl : l.length = n) (hj : j < n) : MAt w g 0 j (l.getD j none1) := by
  obtain ⟨R, h1, h2, _, h4⟩ := h
  have e : R.getD j none1 = l.getD j none1 := by
    have e1 : (R.drop j)[0]? = (l.drop j)[0]? := by rw [h4]
    rw [List.getElem?_drop, List.getElem?_drop, Nat.add_zero] at e1
    rw [List.getD_eq_getElem?_getD, List.getD_eq_getElem?_getD, e1]
  rw [← e]; exact h2 j (by omega)
theorem Row.any {w : World} {g n i j : Nat} {K l : List Mk} (h : Row w g n i j K l) {x : Nat} (hx : x < n) : ∃ y, MAt w g 0 x y := by
  obtain ⟨R, h1, h2, _, _⟩ := h
  exact ⟨_, h2 x (by omega)⟩
theorem Row.skip {w : World} {g n i j : Nat} {K l : List Mk} (h : Row w g n i j K l) : Row w g n i (j + 1) K l := by
  obtain ⟨R, h1, h2, h3, h4⟩ := h
  refine ⟨R, h1, h2, h3, ?_⟩
  have := congrArg (List.drop 1) h4
  rwa [List.drop_drop, List.drop_drop] at this
theorem Row.put {w : World} {g n i j : Nat} {K l : List Mk} {x : Mk} (h : Row w g n i j K l) (hij : i < j) (hi : i < n) (hx : x = l.getD j none1) :
    Row (((w.setCell ⟨g, i * 3, none⟩ (.string x.1)).setCell ⟨g, i * 3 + 1, none⟩ (.int .i64 x.2.1)).setCell ⟨g, i * 3 + 2, none⟩ (.int .i64 x.2.2)) g n (i + 1) (j + 1) (K ++ [x]) l := by
  obtain ⟨R, h1, h2, h3, h4⟩ := h
  refine ⟨R.set i x, by rw [List.length_set]; exact h1, set_mark (by omega) h2, ?_, ?_⟩
  · rw [← h3, take_next (by rw [List.length_set]; omega), List.take_set_of_le (Nat.le_refl _)]
    congr 1
    rw [List.getD_eq_getElem?_getD, List.getElem?_set_self (by omega)]; rfl
  · rw [List.drop_set_of_lt (by omega)]
    have := congrArg (List.drop 1) h4
    rwa [List.drop_drop, List.drop_drop] at this
theorem cells_some {w : World} {g n : Nat} (h : ∀ x, x < n → ∃ y, MAt w g 0 x y) : ∀ k, k < n * 3 → (w.cell? ⟨g, k, none⟩).isSome = true := by
  intro k hk
  obtain ⟨y, a1, a2, a3⟩ := h (k / 3) (by omega)
  have hm : k = k / 3 * 3 + k % 3 := by omega
  have h3 : k % 3 = 0 ∨ k % 3 = 1 ∨ k % 3 = 2 := by omega
  rw [Nat.zero_add] at a1 a2 a3
  rcases h3 with e | e | e
  · rw [hm, e, Nat.add_zero, a1]; rfl
  · rw [hm, e, a2]; rfl
  · rw [hm, e, a3]; rfl

def zM : Value := .agg #[.string ⟨#[]⟩, .int .i64 0, .int .i64 0]
theorem zero_mark (w : World) : (zeroValue 26).run Tryd.prog w = .ok zM w := by kernel_rfl
theorem clear_marks (w : World) (g i n c : Nat) (ty : TypeId) (hi : i < n) (hc : ∀ k, k < n * 3 → (w.cell? ⟨g, k, none⟩).isSome = true) (hf : ∀ o, w.frozen? ⟨g, o, none⟩ = false) :
    (Builtin.clear_ #[22] ty #[.slice (some ⟨g, i * 3, none⟩) (n - i) (c - i)]).run Tryd.prog w = .ok (.tuple #[]) (w.setCells g (i * 3) (Builtin.zeroCells zM.cells (n - i)).toList) :=
  run_clear w 22 26 ty zM Tryd.underlying22 zero_mark (by decide) (by intro u hu; simp [zM, Value.cells] at hu; rcases hu with rfl | rfl <;> rfl) g (i * 3) (n - i) (c - i) (by omega)
    (fun j hj => hc _ (by have : zM.cells.size = 3 := rfl; rw [this] at hj; omega)) hf

set_option maxRecDepth 100000 in
set_option maxHeartbeats 2000000 in
theorem deleteFunc_any (W0 w : World) (g n c : Nat) (l : List Mk) (A B : Nat) (p : ByteArray) (v : Value) (s : List Dt) (hl : l.length = n) (hcs : ∀ j, j < l.length → MAt w g 0 j (l.getD j none1)) (hfr : ∀ o, w.frozen? ⟨g, o, none⟩ = false) (hg : W0.heap.size ≤ g) (hgw : g < w.heap.size) (hb0 : Below W0.heap.size W0 w) (hn : n ≤ 1048576) (hnc : n ≤ c) (hcm : c ≤ maxLen) (hA : W0.cell? ⟨A, 0, none⟩ = some (.string p)) (hB : W0.cell? ⟨B, 0, none⟩ = some v) (hs : DtsAt W0 v s) (hsn : s.length ≤ 1048576) :
    Calls Tryd.prog 46 #[.slice (some ⟨g, 0, none⟩) n c, .func (.func 47) #[] #[.pointer (some ⟨A, 0, none⟩), .pointer (some ⟨B, 0, none⟩)]] w fun e w' => ∃ v', e = .returned v' ∧ MksNew W0.heap.size w' v' (stays p s l) ∧ Below W0.heap.size W0 w' := by
  have C := indexFunc_any (some ⟨g, 0, none⟩) n c l A B p v s w hl (Or.inr ⟨g, 0, rfl, hcs⟩) hn (keep_cell hb0 hA) (keep_cell hb0 hB) (hs.below hb0) hsn
  have HC : Hid (∀ wr, Below W0.heap.size W0 wr → ∀ sx x1 x2, Calls Tryd.prog 47 #[.agg #[.string sx, .int .i64 x1, .int .i64 x2], .pointer (some ⟨A, 0, none⟩), .pointer (some ⟨B, 0, none⟩)] wr fun e w' => e = .returned (.bool (gone p s (sx, (x1, x2)))) ∧ Below wr.heap.size wr w') :=
    fun wr hb sx x1 x2 => closure_any sx x1 x2 A B p v s wr (keep_cell hb hA) (keep_cell hb hB) (hs.below hb) hsn
  have HL : Hid (l.length = n) := hl
  have HR : Hid (Row w g n 0 0 [] l) := ⟨l, hl, hcs, rfl, rfl⟩
  have HF : Hid (∀ o, w.frozen? ⟨g, o, none⟩ = false) := hfr
  have HB0 : Hid (Below W0.heap.size W0 w) := hb0
  have HGL : Hid (W0.heap.size ≤ g ∧ g < w.heap.size) := ⟨hg, hgw⟩
  have HCM : Hid (c ≤ maxLen) := hcm
  have hcm2 : c ≤ 9223372036854775807 := by unfold maxLen at hcm; omega
  clear hl hcs hfr hg hgw hb0 hA hB hs hsn hcm
  go_enter Tryd.func46, Tryd.ntmps46
  go_wp2_with fail
  refine C.mono ?_
  rintro e w1 ⟨⟨z, rfl, hz⟩, hb1⟩
  have HB1 : Hid (Below W0.heap.size W0 w1) := HB0.out.trans (hb1.mono HB0.out.size)
  have HR1 : Hid (Row w1 g n 0 0 [] l) := HR.out.below hb1
  have HF1 : Hid (∀ o, w1.frozen? ⟨g, o, none⟩ = false) := fun o => by
    have := HF.out o
    unfold World.frozen? at this ⊢
    rw [hb1.block g HGL.out.2]; exact this
  have HGL1 : Hid (W0.heap.size ≤ g ∧ g < w1.heap.size) := ⟨HGL.out.1, Nat.lt_of_lt_of_le HGL.out.2 hb1.size⟩
  clear hb1 C HR HF HB0 HGL
  rcases hz with ⟨rfl, hz⟩ | ⟨k, hk, rfl, hk1, hk2⟩
  · have HS : Hid (stays p s l = l) := stays_all hz
    clear hz
    go_wp2_with fail
    go_ret
    refine ⟨_, rfl, ?_, HB1.out⟩
    rw [HS.out]
    obtain ⟨R, h1, h2, _, h4⟩ := HR1.out
    have e : R = l := by simpa using h4
    subst e
    exact ⟨⟨some ⟨g, 0, none⟩, c, by rw [HL.out]; rfl, Or.inr ⟨g, 0, rfl, h2⟩, by rw [HL.out]; exact hnc, HCM.out, fun h => by cases h⟩, La.Lies.at HGL1.out.1⟩
  · have hkn : k < n := by rw [← HL.out]; exact hk
    have hkb : ((k : Int) == -1) = false := by rw [beq_eq_false_iff_ne]; omega
    have HR2 : Hid (Row w1 g n k (k + 1) (stays p s (l.take (k + 1))) l) := by
      have e1 : stays p s (l.take (k + 1)) = l.take k := by
        rw [stays_next hk, hk1, if_pos rfl]
        refine stays_all fun j hj => ?_
        rw [List.length_take] at hj
        have := hk2 j (by omega)
        rwa [List.getD_eq_getElem?_getD, List.getElem?_take_of_lt (by omega), ← List.getD_eq_getElem?_getD]
      rw [e1]
      obtain ⟨R, h1, h2, _, h4⟩ := HR1.out
      have e : R = l := by simpa using h4
      subst e
      exact ⟨R, h1, h2, rfl, rfl⟩
    clear hk hk1 hk2 HR1
    go_wp2_with fail
    go_loopw [5, 6] (fun vi vj wr => ∃ (i j : Nat), i < j ∧ j ≤ n ∧ vi = .int .i64 i ∧ vj = .int .i64 j ∧ Hid ((stays p s (l.take j)).length = i ∧ Row wr g n i j (stays p s (l.take j)) l) ∧ Hid (∀ o, wr.frozen? ⟨g, o, none⟩ = false) ∧ Hid (Below W0.heap.size W0 wr) ∧ Hid (W0.heap.size ≤ g ∧ g < wr.heap.size)) (fun _ vj _ => n - (intOf vj).toNat)
    case atStart => exact ⟨k, k + 1, by omega, by omega, rfl, by go_num, ⟨by obtain ⟨R, h1, _, h3, _⟩ := HR2.out; rw [← h3, List.length_take]; omega, HR2.out⟩, HF1, HB1, HGL1⟩
    case round =>
      clear HR2 HF1 HB1 HGL1
      obtain ⟨i, j, hij, hjn, rfl, rfl, HRR, HF, HB, HGL⟩ := hrel
      by_cases hlt : j < n
      · have hltz : (j : Int) < n := by omega
        have ha := HRR.out.2.at HL.out hlt
        obtain ⟨x, hx⟩ : ∃ x, x = l.getD j none1 := ⟨_, rfl⟩
        rw [← hx] at ha
        have HX : Hid (x = l.getD j none1) := hx
        have HSN : Hid (stays p s (l.take (j + 1)) = if gone p s x then stays p s (l.take j) else stays p s (l.take j) ++ [x]) := by
          unfold Hid; rw [stays_next (by rw [HL.out]; exact hlt), ← hx]
        obtain ⟨sx, x1, x2⟩ := x
        obtain ⟨a1, a2, a3⟩ := ha
        rw [Nat.zero_add] at a1 a2 a3
        simp only at a1 a2 a3
        clear hx
        have HBA : Hid (Below W0.heap.size W0 (wr.alloc (.cells #[.string sx, .int .i64 x1, .int .i64 x2] 26))) := HB.out.alloc HB.out.size _
        have C := HC.out _ HBA.out sx x1 x2
        cases hgo : gone p s (sx, (x1, x2))
        · rw [hgo] at C HSN
          have hin : i < n := by omega
          have hinz : (i : Int) < n := by omega
          clear hgo
          go_wp2_with fail
          refine C.mono ?_
          rintro e w2 ⟨rfl, hb2⟩
          have HB2 : Hid (Below W0.heap.size W0 w2) := HBA.out.trans (hb2.mono HBA.out.size)
          have hbw : Below wr.heap.size wr w2 := bel_new (Below.refl _ _) hb2
          obtain ⟨d0, d1, d2⟩ := new_cell (x := (sx, (x1, x2))) hb2
          simp only at d0 d1 d2
          have HR2 : Hid (Row w2 g n i j (stays p s (l.take j)) l) := HRR.out.2.below hbw
          have HF2 : Hid (∀ o, w2.frozen? ⟨g, o, none⟩ = false) := fun o => by
            have := HF.out o
            unfold World.frozen? at this ⊢
            rw [hbw.block g HGL.out.2]; exact this
          have HGL2 : Hid (W0.heap.size ≤ g ∧ g < w2.heap.size) := ⟨HGL.out.1, Nat.lt_of_lt_of_le HGL.out.2 hbw.size⟩
          have HNE : Hid (g ≠ wr.heap.size) := Nat.ne_of_lt HGL.out.2
          obtain ⟨y, b1, b2, b3⟩ := HR2.out.any hin
          rw [Nat.zero_add] at b1 b2 b3
          have f1 := HF2.out (i * 3)
          have f2 := HF2.out (i * 3 + 1)
          have f3 := HF2.out (i * 3 + 2)
          have HP : Hid ((stays p s (l.take (j + 1))).length = i + 1 ∧ Row (((w2.setCell ⟨g, i * 3, none⟩ (.string sx)).setCell ⟨g, i * 3 + 1, none⟩ (.int .i64 x1)).setCell ⟨g, i * 3 + 2, none⟩ (.int .i64 x2)) g n (i + 1) (j + 1) (stays p s (l.take (j + 1))) l) := by
            unfold Hid
            rw [HSN.out]
            exact ⟨by simp [HRR.out.1], HR2.out.put (x := (sx, (x1, x2))) hij hin HX.out⟩
          have HB3 : Hid (Below W0.heap.size W0 (((w2.setCell ⟨g, i * 3, none⟩ (.string sx)).setCell ⟨g, i * 3 + 1, none⟩ (.int .i64 x1)).setCell ⟨g, i * 3 + 2, none⟩ (.int .i64 x2))) :=
            ((HB2.out.setCell (p := ⟨g, i * 3, none⟩) HGL.out.1 _).setCell (p := ⟨g, i * 3 + 1, none⟩) HGL.out.1 _).setCell (p := ⟨g, i * 3 + 2, none⟩) HGL.out.1 _
          obtain ⟨y1, hy1⟩ : ∃ t, t = Value.string y.1 := ⟨_, rfl⟩
          obtain ⟨y2, hy2⟩ : ∃ t, t = Value.int .i64 y.2.1 := ⟨_, rfl⟩
          obtain ⟨y3, hy3⟩ : ∃ t, t = Value.int .i64 y.2.2 := ⟨_, rfl⟩
          rw [← hy1] at b1
          rw [← hy2] at b2
          rw [← hy3] at b3
          clear hb2 hbw C a1 a2 a3 hy1 hy2 hy3 HR2 HRR HSN
          go_wp2_with fail
          go_roundw
          case rel => exact ⟨i + 1, j + 1, by omega, by omega, by go_num, by go_num, HP.out, fun o => by simp only [World.frozen?_setCell]; exact HF2.out o, HB3, ⟨HGL2.out.1, by have := HGL2.out.2; simpa using this⟩⟩
          case measure => simp [intOf]; omega
        · rw [hgo] at C HSN
          clear hgo
          go_wp2_with fail
          refine C.mono ?_
          rintro e w2 ⟨rfl, hb2⟩
          have HB2 : Hid (Below W0.heap.size W0 w2) := HBA.out.trans (hb2.mono HBA.out.size)
          have hbw : Below wr.heap.size wr w2 := bel_new (Below.refl _ _) hb2
          have HR2 : Hid ((stays p s (l.take (j + 1))).length = i ∧ Row w2 g n i (j + 1) (stays p s (l.take (j + 1))) l) := by
            unfold Hid
            rw [HSN.out, if_pos (by first | rfl | trivial)]
            exact ⟨HRR.out.1, (HRR.out.2.below hbw).skip⟩
          have HF2 : Hid (∀ o, w2.frozen? ⟨g, o, none⟩ = false) := fun o => by
            have := HF.out o
            unfold World.frozen? at this ⊢
            rw [hbw.block g HGL.out.2]; exact this
          have HGL2 : Hid (W0.heap.size ≤ g ∧ g < w2.heap.size) := ⟨HGL.out.1, Nat.lt_of_lt_of_le HGL.out.2 hbw.size⟩
          clear hb2 hbw C a1 a2 a3 HRR HSN
          go_wp2_with fail
          go_roundw
          case rel => exact ⟨i, j + 1, by omega, by omega, rfl, by go_num, HR2.out, HF2, HB2, HGL2⟩
          case measure => simp [intOf]; omega
      · obtain rfl : j = n := by omega
        have hin : i < j := hij
        have hiz : (i : Int) ≤ j := by omega
        have hicz : (i : Int) ≤ c := by omega
        have hci : ¬ c = i := by omega
        have hcl := fun ty => clear_marks wr g i j c ty hin (cells_some fun x hx => HRR.out.2.any hx) HF.out
        obtain ⟨Z, hZ⟩ : ∃ Z, Z = (Builtin.zeroCells zM.cells (j - i)).toList := ⟨_, rfl⟩
        rw [← hZ] at hcl
        have HB3 : Hid (Below W0.heap.size W0 (wr.setCells g (i * 3) Z)) := below_setCells HGL.out.1 _ _ _ HB.out
        have HM : Hid (MksAt (wr.setCells g (i * 3) Z) (.slice (some ⟨g, 0, none⟩) i c) (stays p s l)) := by
          obtain ⟨e1, R, h1, h2, h3, _⟩ := HRR.out
          have hlt2 : l.take j = l := List.take_of_length_le (by rw [HL.out]; exact Nat.le_refl _)
          rw [hlt2] at e1 h3
          refine ⟨some ⟨g, 0, none⟩, c, by rw [e1], Or.inr ⟨g, 0, rfl, fun x hx => ?_⟩, by omega, HCM.out, fun h => by cases h⟩
          rw [e1] at hx
          have e2 : (stays p s l).getD x none1 = R.getD x none1 := by
            rw [← h3, List.getD_eq_getElem?_getD, List.getElem?_take_of_lt hx, ← List.getD_eq_getElem?_getD]
          rw [e2]
          obtain ⟨c1, c2, c3⟩ := h2 x (by omega)
          refine ⟨?_, ?_, ?_⟩
          · rw [World.cell?_setCells_out _ _ _ _ _ (fun _ _ => Or.inl (by simp only []; omega))]; exact c1
          · rw [World.cell?_setCells_out _ _ _ _ _ (fun _ _ => Or.inl (by simp only []; omega))]; exact c2
          · rw [World.cell?_setCells_out _ _ _ _ _ (fun _ _ => Or.inl (by simp only []; omega))]; exact c3
        clear hZ HRR
        go_wp2_with fail
        go_ret
        exact ⟨_, rfl, ⟨HM.out, La.Lies.at HGL.out.1⟩, HB3.out⟩

end Nm
end Go.Proofs.YtcmoajlcmeimiaaDoor
