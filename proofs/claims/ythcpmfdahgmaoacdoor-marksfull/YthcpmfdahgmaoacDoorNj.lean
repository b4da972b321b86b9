/- What checkRising of dots, slices.Index, slices.Contains and the closure of Join answer; when two dots, two marks are the same. -/
import Derived.Test.YthcpmfdahgmaoacDoorNd
import Derived.Laws.StructEq
namespace Go.Proofs.YthcpmfdahgmaoacDoor
namespace Nj
set_option linter.unusedVariables false
open Go.ChangeShapes Go.WideShapes Go.ChangeAt Go.RowKit Cm Ka Kb Na Nb Nc Nd
open La (bel bel_drew errV_zero errV_ne own_ge own_grow own_below)

/- dots one by one, each of them right and above the one ahead of it -/
def goesD : Option Dt → List Dt → Int
  | _, [] => 0
  | a, m :: l => if dotE m.1 m.2 ≠ 0 then dotE m.1 m.2 else if (match a with | none => true | some x => dlt x m) = false then 7 else goesD (some m) l
def risE (l : List Dt) : Int := if 40 < l.length then 4 else goesD none l
theorem goesD_zero : ∀ {l : List Dt} {a : Option Dt}, goesD a l = 0 ↔ (∀ m ∈ l, dotE m.1 m.2 = 0) ∧ (∀ x, a = some x → ∀ m ∈ l, dlt x m = true) ∧ Rise dlt l
  | [], a => by simp [goesD, Rise]
  | m :: l, a => by
    unfold goesD
    by_cases h1 : dotE m.1 m.2 = 0
    · rw [if_neg (by simpa using h1)]
      cases h2 : (match a with | none => true | some x => dlt x m)
      · rw [if_pos rfl]
        constructor
        · intro h; exact absurd h (by decide)
        · rintro ⟨_, g2, _⟩
          cases a with
          | none => simp at h2
          | some x => have := g2 x rfl m (List.mem_cons_self ..); simp only at h2; rw [h2] at this; cases this
      · rw [if_neg (by simp), goesD_zero]
        constructor
        · rintro ⟨g1, g2, g3⟩
          have g2' := g2 m rfl
          refine ⟨?_, ?_, List.pairwise_cons.2 ⟨g2', g3⟩⟩
          · intro y hy
            rcases List.mem_cons.1 hy with rfl | hy
            · exact h1
            · exact g1 y hy
          · rintro x rfl y hy
            simp only at h2
            rcases List.mem_cons.1 hy with rfl | hy
            · exact h2
            · exact dlt_strict.2.1 _ _ _ h2 (g2' y hy)
        · rintro ⟨g1, g2, g3⟩
          have g4 := List.pairwise_cons.1 g3
          exact ⟨fun y hy => g1 y (List.mem_cons_of_mem _ hy), fun x e y hy => by injection e with e; subst e; exact g4.1 y hy, g4.2⟩
    · rw [if_pos h1]
      constructor
      · intro h; exact absurd h h1
      · rintro ⟨g1, _, _⟩; exact g1 m (List.mem_cons_self ..)
theorem risE_zero {s : List Dt} (h1 : s.length ≤ 40) (h2 : dotsE s = 0) : risE s = 0 := by
  unfold risE
  obtain ⟨g1, g2⟩ := dotsE_zero.1 h2
  rw [if_neg (by omega), goesD_zero]
  exact ⟨g1, fun x e => (by cases e), g2⟩
theorem new_cellD {w w2 : World} {x : Dt} {t : TypeId} (hb : Below (w.alloc (.cells #[.int .i64 x.1, .int .i64 x.2] t)).heap.size (w.alloc (.cells #[.int .i64 x.1, .int .i64 x.2] t)) w2) :
    w2.cell? ⟨w.heap.size, 0, none⟩ = some (.int .i64 x.1) ∧ w2.cell? ⟨w.heap.size, 1, none⟩ = some (.int .i64 x.2) := by
  have hlt : w.heap.size < (w.alloc (.cells #[.int .i64 x.1, .int .i64 x.2] t)).heap.size := by simp
  have h2 : (w.alloc (.cells #[.int .i64 x.1, .int .i64 x.2] t)).heap[w.heap.size]? = some (.cells #[.int .i64 x.1, .int .i64 x.2] t) := heap_alloc_new w _
  refine ⟨(hb.cell (p := ⟨w.heap.size, 0, none⟩) hlt).trans ?_, (hb.cell (p := ⟨w.heap.size, 1, none⟩) hlt).trans ?_⟩ <;> (simp only [World.cell?, h2]; rfl)

def prvD (l : List Dt) (k : Nat) : Option Dt := if k = 0 then none else some (l.getD (k - 1) noneD)
def okD (a : Option Dt) (x : Dt) : Bool := match a with | none => true | some y => dlt y x
theorem goesD_step {l : List Dt} {k : Nat} {x : Dt} (hk : k < l.length) (hx : x = l.getD k noneD) :
    goesD (prvD l k) (l.drop k) = if dotE x.1 x.2 ≠ 0 then dotE x.1 x.2 else if okD (prvD l k) x = false then 7 else goesD (prvD l (k + 1)) (l.drop (k + 1)) := by
  rw [dropD_at hk, ← hx]
  have e : prvD l (k + 1) = some x := by unfold prvD; rw [if_neg (by omega), Nat.add_sub_cancel, ← hx]
  rw [e]; rfl

set_option maxRecDepth 100000 in
set_option maxHeartbeats 2000000 in
theorem risingD_any (p : Option Addr) (n c : Nat) (l : List Dt) (w : World) (hl : l.length = n) (h : DotsIn w p l) (hn : n ≤ maxLen) :
    Calls Tryd.prog 18 #[.slice p n c, .func (.func 19) #[] #[], .func (.func 20) #[] #[]] w fun e w' => e = .returned (errV (risE l)) ∧ Below w.heap.size w w' := by
  unfold maxLen at hn
  by_cases h40 : 40 < n
  · have HE : Hid (risE l = 4) := by unfold Hid risE; rw [hl, if_pos h40]
    have hz : (40 : Int) < n := by omega
    clear hl h
    go_enter Tryd.func18, Tryd.ntmps18
    go_wp2
    go_ret
    exact ⟨by rw [HE.out]; rfl, Below.refl _ _⟩
  · have HE : Hid (risE l = goesD none l) := by unfold Hid risE; rw [hl, if_neg h40]
    have hz : ¬ (40 : Int) < n := by omega
    have HL : Hid (l.length = n) := hl
    have HI : Hid (DotsIn w p l) := h
    clear hl h
    go_enter Tryd.func18, Tryd.ntmps18
    go_wp2
    go_loopw [16] (fun i wr => ∃ (k : Nat), k ≤ n ∧ i = .int .i64 k ∧ Hid (goesD (prvD l k) (l.drop k) = goesD none l) ∧ Hid (Below w.heap.size w wr)) (fun i _ => n - (intOf i).toNat)
    case atStart => exact ⟨0, by omega, rfl, rfl, Below.refl _ _⟩
    case round =>
      obtain ⟨k, hk, rfl, HG, HB⟩ := hrel
      by_cases hlt : k < n
      · have hltz : (k : Int) < n := by omega
        obtain ⟨b, o, rfl, hc⟩ := HI.out.some (by intro e; have := HL.out; rw [e] at this; simp at this; omega)
        have hkl : k < l.length := by rw [HL.out]; exact hlt
        have ha := (hc k hkl).below HB.out (hc k hkl).lt
        have HP : Hid (∀ j, j + 1 = k → DAt wr b o j (l.getD j noneD)) := fun j hj => (hc j (by omega)).below HB.out (hc j (by omega)).lt
        obtain ⟨x, hx⟩ : ∃ x, x = l.getD k noneD := ⟨_, rfl⟩
        rw [← hx] at ha
        have HD := goesD_step hkl hx
        obtain ⟨x1, x2⟩ := x
        obtain ⟨a1, a2⟩ := ha
        simp only at a1 a2
        clear hc hx
        have C := dotCheck_any x1 x2 (wr.alloc (.cells #[.int .i64 x1, .int .i64 x2] 28))
        by_cases h0 : dotE x1 x2 = 0
        · rw [h0, errV_zero] at C
          rw [if_neg (by simpa using h0)] at HD
          clear h0
          by_cases hk0 : k = 0
          · subst hk0
            have HG2 : Hid (goesD (prvD l (0 + 1)) (l.drop (0 + 1)) = goesD none l) := by
              unfold Hid; rw [← HG.out, HD]; rfl
            clear HD HP
            simp only [Nat.zero_mul, Nat.add_zero] at a1 a2
            go_wp2_with fail
            refine C.mono ?_
            rintro e w2 ⟨rfl, hb2⟩
            have HB2 : Hid (Below w.heap.size w w2) := bel_new HB.out hb2
            clear hb2 C a1 a2
            go_wp2_with fail
            go_quiet (fail)
            go_wp2_with fail
            go_roundw
            case rel => exact ⟨0 + 1, by omega, by go_num, HG2, bel_drew HB2.out _⟩
            case measure => simp [intOf]; omega
          · obtain ⟨m, hm⟩ : ∃ m, m + 1 = k := ⟨k - 1, by omega⟩
            have hpm := HP.out m hm
            have HPV : Hid (prvD l k = some (l.getD m noneD)) := by unfold Hid prvD; rw [if_neg hk0, show k - 1 = m by omega]
            rw [HG.out, HPV.out] at HD
            obtain ⟨y, hy⟩ : ∃ y, y = l.getD m noneD := ⟨_, rfl⟩
            rw [← hy] at HD hpm
            obtain ⟨y1, y2⟩ := y
            obtain ⟨c1, c2⟩ := hpm
            simp only at c1 c2 HD
            have HQL : Hid (dcmp (y1, y2) (x1, x2) < 0 ↔ dlt (y1, y2) (x1, x2) = true) := dcmp_lt
            obtain ⟨q, hq⟩ : ∃ q, q = dcmp (y1, y2) (x1, x2) := ⟨_, rfl⟩
            have C2 := fun W => compareDots_any y1 y2 x1 x2 W
            rw [← hq] at C2 HQL
            have hk0z : (0 : Int) < k := by omega
            have hk0n : 0 < k := by omega
            have hkm : IntKind.i64.wrap ((k : Int) - 1) = (m : Int) := by rw [show (k : Int) - 1 = (m : Int) by omega]; exact wrap_in (by omega) (by omega)
            have hmz : (m : Int) < n := by omega
            have HLT : Hid (b < wr.heap.size) := World.block_lt_of_cell? _ ⟨b, o + k * 2, none⟩ a1
            clear hq hy HPV HP hk0
            by_cases hq0 : 0 ≤ q
            · have HQ : Hid (errV (risE l) = .iface 46 (.int .i64 7)) := by
                have h9 : dlt (y1, y2) (x1, x2) = false := by
                  cases h8 : dlt (y1, y2) (x1, x2)
                  · rfl
                  · exact absurd (HQL.out.2 h8) (by omega)
                unfold Hid; rw [HE.out, HD, show okD (some (y1, y2)) (x1, x2) = false from h9, if_pos rfl]; rfl
              clear HQL HD
              go_wp2_with fail
              refine C.mono ?_
              rintro e w2 ⟨rfl, hb2⟩
              have HB2 : Hid (Below w.heap.size w w2) := bel_new HB.out hb2
              obtain ⟨d0, d1⟩ := new_cellD (x := (x1, x2)) hb2
              simp only at d0 d1
              have HW : Hid (Below wr.heap.size wr w2) := bel_new (Below.refl _ _) hb2
              have f1 := (HW.out.cell (p := ⟨b, o + m * 2, none⟩) HLT.out).trans c1
              have f2 := (HW.out.cell (p := ⟨b, o + m * 2 + 1, none⟩) HLT.out).trans c2
              clear hb2 C a1 a2 c1 c2
              go_wp2_with fail
              go_region_held3 (fun W => W.cell? ⟨b, o + m * 2, none⟩ = some (.int .i64 y1) ∧ W.cell? ⟨b, o + m * 2 + 1, none⟩ = some (.int .i64 y2) ∧ W.cell? ⟨wr.heap.size, 0, none⟩ = some (.int .i64 x1) ∧ W.cell? ⟨wr.heap.size, 1, none⟩ = some (.int .i64 x2)) (first | (go_keep; done) | (refine ⟨keep_cell hb7 ?_, keep_cell hb7 ?_, keep_cell hb7 ?_, keep_cell hb7 ?_⟩ <;> (go_split_ands; assumption))) (first
                | (go_at_call 20; refine (C2 _).mono ?_; rintro e w7 ⟨rfl, hb7⟩; have HB7 : Hid (Below w.heap.size w w7) := bel HB2.out.drew hb7))
              all_goals
                go_wp2_with fail
                go_ret
                exact ⟨by rw [HQ.out]; rfl, HB7.out⟩
            · have HG2 : Hid (goesD (prvD l (k + 1)) (l.drop (k + 1)) = goesD none l) := by
                have h9 : dlt (y1, y2) (x1, x2) = true := HQL.out.1 (by omega)
                unfold Hid; rw [HD, show okD (some (y1, y2)) (x1, x2) = true from h9, if_neg (by decide)]
              clear HQL HD
              go_wp2_with fail
              refine C.mono ?_
              rintro e w2 ⟨rfl, hb2⟩
              have HB2 : Hid (Below w.heap.size w w2) := bel_new HB.out hb2
              obtain ⟨d0, d1⟩ := new_cellD (x := (x1, x2)) hb2
              simp only at d0 d1
              have HW : Hid (Below wr.heap.size wr w2) := bel_new (Below.refl _ _) hb2
              have f1 := (HW.out.cell (p := ⟨b, o + m * 2, none⟩) HLT.out).trans c1
              have f2 := (HW.out.cell (p := ⟨b, o + m * 2 + 1, none⟩) HLT.out).trans c2
              clear hb2 C a1 a2 c1 c2
              go_wp2_with fail
              go_region_held3 (fun W => W.cell? ⟨b, o + m * 2, none⟩ = some (.int .i64 y1) ∧ W.cell? ⟨b, o + m * 2 + 1, none⟩ = some (.int .i64 y2) ∧ W.cell? ⟨wr.heap.size, 0, none⟩ = some (.int .i64 x1) ∧ W.cell? ⟨wr.heap.size, 1, none⟩ = some (.int .i64 x2)) (first | (go_keep; done) | (refine ⟨keep_cell hb7 ?_, keep_cell hb7 ?_, keep_cell hb7 ?_, keep_cell hb7 ?_⟩ <;> (go_split_ands; assumption))) (first
                | (go_at_call 20; refine (C2 _).mono ?_; rintro e w7 ⟨rfl, hb7⟩; have HB7 : Hid (Below w.heap.size w w7) := bel HB2.out.drew hb7))
              all_goals
                go_wp2_with fail
                go_roundw
                case rel => exact ⟨k + 1, by omega, by go_num, HG2, HB7⟩
                case measure => simp [intOf]; omega
        · obtain ⟨q, hq⟩ : ∃ q, q = dotE x1 x2 := ⟨_, rfl⟩
          have HQ : Hid (errV (risE l) = .iface 46 (.int .i64 q)) := by
            unfold Hid; rw [HE.out, ← HG.out, HD, if_pos h0, hq, errV_ne h0]
          rw [errV_ne h0, ← hq] at C
          clear HD h0 hq HP
          go_wp2_with fail
          refine C.mono ?_
          rintro e w2 ⟨rfl, hb2⟩
          have HB2 : Hid (Below w.heap.size w w2) := bel_new HB.out hb2
          clear hb2 C
          go_wp2_with fail
          go_ret
          exact ⟨by rw [HQ.out]; rfl, HB2.out⟩
      · obtain rfl : k = n := by omega
        have HZ : Hid (goesD none l = 0) := by
          unfold Hid; rw [← HG.out, List.drop_of_length_le (by rw [HL.out]; exact Nat.le_refl _)]; rfl
        go_wp2_with fail
        go_ret
        exact ⟨by rw [HE.out, HZ.out]; rfl, HB.out⟩

end Nj
end Go.Proofs.YthcpmfdahgmaoacDoor
