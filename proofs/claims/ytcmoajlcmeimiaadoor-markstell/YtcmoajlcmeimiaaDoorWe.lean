/- What the reference says of no marks with one more; With and Without at all marks. -/
import Derived.Test.YtcmoajlcmeimiaaDoorWd
namespace Go.Proofs.YtcmoajlcmeimiaaDoor
namespace We
set_option linter.unusedVariables false
open Go.ChangeShapes Go.WideShapes Go.ChangeAt Go.RowKit Cm Ka Kb Na Nb Nc Nd Nse Nf Ng Nj Nk Np Wp Wa Wb Wc Wd
open La (bel bel_drew errV_zero errV_ne own_ge own_grow own_below)


set_option maxRecDepth 100000 in
set_option maxHeartbeats 4000000 in
theorem with_none  (sp : ByteArray) (p1 p2 : Int) (w : World) :
    Calls Tryd.prog 10 #[.slice none 0 0, .agg #[.string sp, .int .i64 p1, .int .i64 p2]] w fun e w' => ∃ v', e = .returned (.tuple #[v', .int .i64 0]) ∧ (MksAt w' v' [(sp, (p1, p2))] ∧ La.Lies w.heap.size v') ∧ Below w.heap.size w w' := by
  obtain ⟨i0, hi0, hz0, hz1, hz2⟩ := info_parts infoMark
  have HNC : Hid (∀ wr, Below (w.alloc (.cells #[.string sp, .int .i64 p1, .int .i64 p2] 26)).heap.size (w.alloc (.cells #[.string sp, .int .i64 p1, .int .i64 p2] 26)) wr → wr.cell? ⟨w.heap.size, 0, none⟩ = some (.string sp) ∧ wr.cell? ⟨w.heap.size, 1, none⟩ = some (.int .i64 p1) ∧ wr.cell? ⟨w.heap.size, 2, none⟩ = some (.int .i64 p2)) := fun wr hb => new_cell (x := (sp, (p1, p2))) hb
  have HB0 : Hid (Below w.heap.size w (w.alloc (.cells #[.string sp, .int .i64 p1, .int .i64 p2] 26))) := (Below.refl _ w).alloc (Nat.le_refl _) _
  go_enter Tryd.func10, Tryd.ntmps10
  go_wp2
  go_loopw [6] (fun vi wr => vi = .int .i64 0 ∧ Hid (Below w.heap.size w wr) ∧ Hid (wr.cell? ⟨w.heap.size, 0, none⟩ = some (.string sp) ∧ wr.cell? ⟨w.heap.size, 1, none⟩ = some (.int .i64 p1) ∧ wr.cell? ⟨w.heap.size, 2, none⟩ = some (.int .i64 p2))) (fun vi _ => 0)
  case atStart => exact ⟨rfl, HB0, HNC.out _ (Below.refl _ _)⟩
  case round =>
    clear HNC HB0
    obtain ⟨rfl, KB, HX0⟩ := hrel
    obtain ⟨d0, d1, d2⟩ := HX0.out
    go_wp2_with fail
    go_quiet (fail)
    go_wp2_with fail
    go_quiet (fail)
    generalize hwq : World.drewN _ _ = wq
    have KQ : Hid (Below w.heap.size w wq) := by rw [← hwq]; exact bel_drew (bel_drew KB.out _) _
    have g0 : wq.cell? ⟨w.heap.size, 0, none⟩ = some (.string sp) := by rw [← hwq]; exact d0
    have g1 : wq.cell? ⟨w.heap.size, 1, none⟩ = some (.int .i64 p1) := by rw [← hwq]; exact d1
    have g2 : wq.cell? ⟨w.heap.size, 2, none⟩ = some (.int .i64 p2) := by rw [← hwq]; exact d2
    have HS2 : Hid (wq.heap.size ≤ (wq.alloc (.cells #[.string sp, .int .i64 p1, .int .i64 p2] 26)).heap.size) := alloc_le _ _
    have hm3 : 0 + 1 ≤ maxLen := by unfold maxLen; omega
    have hm0 : 0 + 0 ≤ maxLen := by unfold maxLen; omega
    have hm1 : 1 + 0 ≤ maxLen := by unfold maxLen; omega
    clear hwq d0 d1 d2 KB
    have hap := fun W => run_append_owned_none (P := Tryd.prog) (w := W) wq.heap.size 22 22 26 i0 3 Tryd.underlying22 hi0 (.slice none 0 0) 0 [] (World.ownsRow_nil W _ _ _)
    go_wp2_with (first
      | (at_builtin; refine Lib.wpList_append_run _ rfl (.tmp 38) (.tmp 41) _ _ rfl _ _ rfl rfl _ _ (hap _) ?_)
      | (at_builtin; refine wpList_append_own_at _ rfl (.tmp 43) (.tmp 45) 22 rfl wq.heap.size 26 i0 (.agg #[.string ⟨#[]⟩, .int .i64 0, .int .i64 0]) 3 32 Tryd.underlying22 hi0 hz0 hz1 hz2 rfl (by decide) (.slice none 0 0) 0 [] rfl (World.ownsRow_nil _ _ _ _) ⟨wq.heap.size, 0, none⟩ 1 1 (flat [(sp, (p1, p2))]) rfl rfl (mark_new wq (sp, (p1, p2)) _) (flat_one _) hm3 (by omega) HS2.out ?_; intro v2 w2 hown2 hgrow2 _ hat2; have HW2 : Hid (w2.ownsRow wq.heap.size 26 3 v2 1 (flat [(sp, (p1, p2))])) := hown2; have HB3 : Hid (Below wq.heap.size wq w2) := ((Below.refl _ wq).alloc (Nat.le_refl _) _).grown hgrow2 HS2.out (fun k hk => by cases hk); have hap2 := run_append_owned_none (P := Tryd.prog) (w := w2) wq.heap.size 22 22 26 i0 3 Tryd.underlying22 hi0 v2 _ _ HW2.out; clear hown2 hgrow2 hat2)
      | (at_builtin; refine Lib.wpList_append_run _ rfl (.tmp 47) (.tmp 50) _ _ rfl _ _ rfl rfl _ _ hap2 ?_))
    go_ret2
    exact ⟨_, rfl, ⟨own_mks HW2.out, (La.Lies.own HW2.out).mono KQ.out.size⟩, bel KQ.out HB3.out⟩

set_option maxRecDepth 100000 in
set_option maxHeartbeats 4000000 in
theorem with_empty (a : Addr) (c : Nat) (sp : ByteArray) (p1 p2 : Int) (w : World) (hcm : c ≤ maxLen) :
    Calls Tryd.prog 10 #[.slice (some a) 0 c, .agg #[.string sp, .int .i64 p1, .int .i64 p2]] w fun e w' => ∃ v', e = .returned (.tuple #[v', .int .i64 0]) ∧ (MksAt w' v' [(sp, (p1, p2))] ∧ La.Lies w.heap.size v') ∧ Below w.heap.size w w' := by
  obtain ⟨i0, hi0, hz0, hz1, hz2⟩ := info_parts infoMark
  have HNC : Hid (∀ wr, Below (w.alloc (.cells #[.string sp, .int .i64 p1, .int .i64 p2] 26)).heap.size (w.alloc (.cells #[.string sp, .int .i64 p1, .int .i64 p2] 26)) wr → wr.cell? ⟨w.heap.size, 0, none⟩ = some (.string sp) ∧ wr.cell? ⟨w.heap.size, 1, none⟩ = some (.int .i64 p1) ∧ wr.cell? ⟨w.heap.size, 2, none⟩ = some (.int .i64 p2)) := fun wr hb => new_cell (x := (sp, (p1, p2))) hb
  have HB0 : Hid (Below w.heap.size w (w.alloc (.cells #[.string sp, .int .i64 p1, .int .i64 p2] 26))) := (Below.refl _ w).alloc (Nat.le_refl _) _
  unfold maxLen at hcm
  have hcz : (0 : Int) ≤ c := by omega
  go_enter Tryd.func10, Tryd.ntmps10
  go_wp2
  go_loopw [6] (fun vi wr => vi = .int .i64 0 ∧ Hid (Below w.heap.size w wr) ∧ Hid (wr.cell? ⟨w.heap.size, 0, none⟩ = some (.string sp) ∧ wr.cell? ⟨w.heap.size, 1, none⟩ = some (.int .i64 p1) ∧ wr.cell? ⟨w.heap.size, 2, none⟩ = some (.int .i64 p2))) (fun vi _ => 0)
  case atStart => exact ⟨rfl, HB0, HNC.out _ (Below.refl _ _)⟩
  case round =>
    clear HNC HB0
    obtain ⟨rfl, KB, HX0⟩ := hrel
    obtain ⟨d0, d1, d2⟩ := HX0.out
    go_wp2_with fail
    go_quiet (fail)
    go_wp2_with fail
    go_quiet (fail)
    generalize hwq : World.drewN _ _ = wq
    have KQ : Hid (Below w.heap.size w wq) := by rw [← hwq]; exact bel_drew (bel_drew KB.out _) _
    have g0 : wq.cell? ⟨w.heap.size, 0, none⟩ = some (.string sp) := by rw [← hwq]; exact d0
    have g1 : wq.cell? ⟨w.heap.size, 1, none⟩ = some (.int .i64 p1) := by rw [← hwq]; exact d1
    have g2 : wq.cell? ⟨w.heap.size, 2, none⟩ = some (.int .i64 p2) := by rw [← hwq]; exact d2
    have HS2 : Hid (wq.heap.size ≤ (wq.alloc (.cells #[.string sp, .int .i64 p1, .int .i64 p2] 26)).heap.size) := alloc_le _ _
    have hm3 : 0 + 1 ≤ maxLen := by unfold maxLen; omega
    have hm0 : 0 + 0 ≤ maxLen := by unfold maxLen; omega
    have hm1 : 1 + 0 ≤ maxLen := by unfold maxLen; omega
    clear hwq d0 d1 d2 KB
    go_wp2_with (first
      | (at_builtin; refine wpList_append_own_at _ rfl (.tmp 38) (.tmp 41) 22 rfl wq.heap.size 26 i0 (.agg #[.string ⟨#[]⟩, .int .i64 0, .int .i64 0]) 3 32 Tryd.underlying22 hi0 hz0 hz1 hz2 rfl (by decide) (.slice none 0 0) 0 [] rfl (World.ownsRow_nil _ _ _ _) a 0 c [] rfl rfl (fun j u hu => by simp at hu) (fun u hu => by simp at hu) hm0 (by omega) (Nat.le_refl _) ?_; intro v1 w1 hown1 hgrow1 _ hat1; have HW1 : Hid (w1.ownsRow wq.heap.size 26 3 v1 0 []) := hown1; have HB2 : Hid (Below wq.heap.size wq w1) := (Below.refl _ _).grown hgrow1 (Nat.le_refl _) (fun k hk => by cases hk); have d0 := keep_cell HB2.out g0; have d1 := keep_cell HB2.out g1; have d2 := keep_cell HB2.out g2; have HS3 : Hid (wq.heap.size ≤ (w1.alloc (.cells #[.string sp, .int .i64 p1, .int .i64 p2] 26)).heap.size) := Nat.le_trans HB2.out.size (alloc_le _ _); clear hown1 hgrow1 hat1)
      | (at_builtin; refine wpList_append_own_at _ rfl (.tmp 43) (.tmp 45) 22 rfl wq.heap.size 26 i0 (.agg #[.string ⟨#[]⟩, .int .i64 0, .int .i64 0]) 3 32 Tryd.underlying22 hi0 hz0 hz1 hz2 rfl (by decide) v1 _ _ rfl (HW1.out.alloc _) ⟨w1.heap.size, 0, none⟩ 1 1 (flat [(sp, (p1, p2))]) rfl rfl (mark_new w1 (sp, (p1, p2)) _) (flat_one _) hm3 (by omega) HS3.out ?_; intro v2 w2 hown2 hgrow2 _ hat2; have HW2 : Hid (w2.ownsRow wq.heap.size 26 3 v2 1 (flat [(sp, (p1, p2))])) := hown2; have HB3 : Hid (Below wq.heap.size wq w2) := own_grow HW1.out (HB2.out.alloc HB2.out.size _) hgrow2 HS3.out; clear hown2 hgrow2 hat2 d0 d1 d2)
      | (at_builtin; refine wpList_append_own_at _ rfl (.tmp 47) (.tmp 50) 22 rfl wq.heap.size 26 i0 (.agg #[.string ⟨#[]⟩, .int .i64 0, .int .i64 0]) 3 32 Tryd.underlying22 hi0 hz0 hz1 hz2 rfl (by decide) v2 _ _ rfl HW2.out a 0 c [] rfl rfl (fun j u hu => by simp at hu) (fun u hu => by simp at hu) hm1 (by omega) HB3.out.size ?_; intro v3 w3 hown3 hgrow3 _ hat3; have HW3 : Hid (w3.ownsRow wq.heap.size 26 3 v3 1 (flat [(sp, (p1, p2))])) := (by have h9 := hown3; rw [List.append_nil, Nat.add_zero] at h9; exact h9); have HB4 : Hid (Below w.heap.size w w3) := bel KQ.out (own_grow HW2.out HB3.out hgrow3 HB3.out.size); clear hown3 hgrow3 hat3))
    go_ret2
    exact ⟨_, rfl, ⟨own_mks HW3.out, (La.Lies.own HW3.out).mono KQ.out.size⟩, HB4.out⟩

theorem with_loc (v : Value) (l : List Mk) (sp : ByteArray) (p1 p2 : Int) (w : World) (h : MksAt w v l) (hr : Rise mlt l) (hn : l.length ≤ 40) :
    Calls Tryd.prog 10 #[v, .agg #[.string sp, .int .i64 p1, .int .i64 p2]] w fun e w' => ∃ v', e = .returned (.tuple #[v', .int .i64 (withM l (sp, (p1, p2)))]) ∧ (MksAt w' v' (withL l (sp, (p1, p2))) ∧ (v' = v ∨ La.Lies w.heap.size v')) ∧ Below w.heap.size w w' := by
  obtain ⟨p, c, rfl, hlf, hc, hcm, hpc⟩ := h
  by_cases hl0 : l = []
  · subst hl0
    have e1 : withM [] (sp, (p1, p2)) = 0 := by unfold withM; rw [if_neg (by rw [there]; simp)]; rfl
    have e2 : withL [] (sp, (p1, p2)) = [(sp, (p1, p2))] := by unfold withL; rw [if_pos e1, ins_at (by rw [there]; simp)]; rfl
    rw [e1, e2]
    cases p with
    | none => rw [hpc rfl]; exact (with_none sp p1 p2 w).mono fun e w' ⟨v', h1, h2, h3⟩ => ⟨v', h1, ⟨h2.1, Or.inr h2.2⟩, h3⟩
    | some a => exact (with_empty a c sp p1 p2 w hcm).mono fun e w' ⟨v', h1, h2, h3⟩ => ⟨v', h1, ⟨h2.1, Or.inr h2.2⟩, h3⟩
  · obtain ⟨b, o, rfl, hcc⟩ := hlf.some hl0
    exact with_some b o _ c l sp p1 p2 w rfl hcc (by cases l with | nil => exact absurd rfl hl0 | cons _ _ => simp) hn hc hcm hr
theorem with_any (v : Value) (l : List Mk) (sp : ByteArray) (p1 p2 : Int) (w : World) (h : MksAt w v l) (hr : Rise mlt l) (hn : l.length ≤ 40) :
    Calls Tryd.prog 10 #[v, .agg #[.string sp, .int .i64 p1, .int .i64 p2]] w fun e w' => ∃ v', e = .returned (.tuple #[v', .int .i64 (withM l (sp, (p1, p2)))]) ∧ MksAt w' v' (withL l (sp, (p1, p2))) ∧ Below w.heap.size w w' :=
  (with_loc v l sp p1 p2 w h hr hn).mono fun e w' ⟨v', h1, h2, h3⟩ => ⟨v', h1, h2.1, h3⟩

/- without those that were seen -/
theorem without_take {l : List Mk} {p : ByteArray} {s : List Dt} {k : Nat} {x : Mk} (hk : k < l.length) (hx : x = l.getD k none1) :
    without (l.take (k + 1)) p s = if gone p s x then without (l.take k) p s else without (l.take k) p s ++ [x] := by
  have e : l.take (k + 1) = l.take k ++ [x] := by
    rw [hx, List.getD_eq_getElem?_getD, List.getElem?_eq_getElem hk, List.take_add_one, List.getElem?_eq_getElem hk]; rfl
  unfold without
  rw [e, List.filter_append]
  have e2 : (decide (x.1 = p) && decide (x.2 ∈ s)) = gone p s x := rfl
  cases h : gone p s x
  · simp only [List.filter_cons, e2, h, List.filter_nil]; simp
  · simp only [List.filter_cons, e2, h, List.filter_nil]; simp
theorem without_len (l : List Mk) (p : ByteArray) (s : List Dt) : (without l p s).length ≤ l.length := by unfold without; exact List.length_filter_le _ _

set_option maxRecDepth 100000 in
set_option maxHeartbeats 2000000 in
theorem without_loc (v : Value) (l : List Mk) (p : ByteArray) (vs : Value) (s : List Dt) (w : World) (hA : MksAt w v l) (hn : l.length ≤ 40) (hd : DtsAt w vs s) (hsn : s.length ≤ 1048576) :
    Calls Tryd.prog 19 #[v, .string p, vs] w fun e w' => ∃ v', e = .returned v' ∧ MksNew w.heap.size w' v' (without l p s) ∧ Below w.heap.size w w' := by
  obtain ⟨i0, hi0, hz0, hz1, hz2⟩ := info_parts infoMark
  have HIN : Hid (∀ W, Below w.heap.size w W → ∀ a b, Calls Tryd.prog 44 #[vs, .agg #[.int .i64 a, .int .i64 b]] W fun e w' => e = .returned (.bool (decide ((a, b) ∈ s))) ∧ Below W.heap.size W w') := fun W hb a b => in_any vs s a b W (hd.below hb) hsn
  obtain ⟨q, c, rfl, hlf, _⟩ := hA
  obtain ⟨qs, cs, rfl, _⟩ := hd
  obtain ⟨n, hl⟩ : ∃ n, l.length = n := ⟨_, rfl⟩
  obtain ⟨ns, hls⟩ : ∃ ns, s.length = ns := ⟨_, rfl⟩
  rw [hl] at hn
  rw [hls] at HIN
  rw [hl, hls]
  have HL : Hid (l.length = n) := hl
  have HI : Hid (MarksIn w q l) := hlf
  clear hl hls hlf hsn
  go_enter Tryd.func19, Tryd.ntmps19
  go_wp2
  go_loopw [7, 8, 9] (fun d i _ wr => ∃ (k : Nat), k ≤ n ∧ i = .int .i64 k ∧ Hid (wr.ownsRow w.heap.size 26 3 d (without (l.take k) p s).length (flat (without (l.take k) p s))) ∧ Hid (Below w.heap.size w wr)) (fun _ i _ _ => n - (intOf i).toNat)
  case atStart => exact ⟨0, by omega, rfl, World.ownsRow_nil _ _ _ _, Below.refl _ _⟩
  case round =>
    obtain ⟨k, hk, rfl, HO, HB⟩ := hrel
    by_cases hlt : k < n
    · have hltz : (k : Int) < n := by omega
      obtain ⟨b, o, rfl, hc⟩ := HI.out.some (by intro e; have := HL.out; rw [e] at this; simp at this; omega)
      have hkl : k < l.length := by rw [HL.out]; exact hlt
      have ha := (hc k hkl).below HB.out (hc k hkl).lt
      obtain ⟨x, hx⟩ : ∃ x, x = l.getD k none1 := ⟨_, rfl⟩
      have HT : Hid (without (l.take (k + 1)) p s = if gone p s x then without (l.take k) p s else without (l.take k) p s ++ [x]) := without_take hkl hx
      rw [← hx] at ha
      obtain ⟨sx, x1, x2⟩ := x
      obtain ⟨a1, a2, a3⟩ := ha
      simp only at a1 a2 a3
      have hdl := without_len (l.take k) p s
      rw [List.length_take] at hdl
      obtain ⟨D, hD⟩ : ∃ D, D = without (l.take k) p s := ⟨_, rfl⟩
      rw [← hD] at HO HT hdl
      have hd40 : D.length ≤ 40 := by omega
      have C := HIN.out wr HB.out x1 x2
      clear hc hx hD hdl
      by_cases hgo : gone p s (sx, (x1, x2)) = true
      · have h2 : sx = p ∧ (x1, x2) ∈ s := by
          unfold gone at hgo; rw [Bool.and_eq_true, decide_eq_true_eq, decide_eq_true_eq] at hgo; exact hgo
        have HW2 : Hid (∀ W, Below wr.heap.size wr W → W.ownsRow w.heap.size 26 3 u7 (without (l.take (k + 1)) p s).length (flat (without (l.take (k + 1)) p s))) := by
          intro W hb; rw [HT.out, if_pos hgo]; exact own_below HO.out hb
        obtain ⟨e1, e2⟩ := h2
        rw [decide_eq_true e2] at C
        subst e1
        clear hgo e2 HT
        go_wp2_with fail
        refine C.mono ?_
        rintro e w2 ⟨rfl, hb2⟩
        have HB2 : Hid (Below w.heap.size w w2) := bel HB.out hb2
        have HW3 : Hid (w2.ownsRow w.heap.size 26 3 u7 (without (l.take (k + 1)) sx s).length (flat (without (l.take (k + 1)) sx s))) := HW2.out _ hb2
        have b1 := keep_cell hb2 a1
        clear hb2 C a1 a2 a3
        go_wp2_with fail
        go_roundw
        case rel => exact ⟨k + 1, by omega, by go_num, HW3, HB2⟩
        case measure => simp [intOf]; omega
      · have HT2 : Hid (without (l.take (k + 1)) p s = D ++ [(sx, (x1, x2))]) := by unfold Hid; rw [HT.out, if_neg hgo]
        have hm3 : D.length + 1 ≤ maxLen := by unfold maxLen; omega
        have hm4 : (D.length + 1) * 32 ≤ 140737488355328 := by omega
        clear HT
        by_cases hpe : sx = p
        · have h2 : ¬ (x1, x2) ∈ s := by
            intro h; apply hgo; unfold gone; rw [decide_eq_true hpe, decide_eq_true h]; rfl
          rw [decide_eq_false h2] at C
          subst hpe
          clear hgo h2
          go_wp2_with fail
          refine C.mono ?_
          rintro e w2 ⟨rfl, hb2⟩
          have HB2 : Hid (Below w.heap.size w w2) := bel HB.out hb2
          have HO2 : Hid (w2.ownsRow w.heap.size 26 3 u7 D.length (flat D)) := own_below HO.out hb2
          have b1 := keep_cell hb2 a1
          have b2 := keep_cell hb2 a2
          have b3 := keep_cell hb2 a3
          have HS3 : Hid (w.heap.size ≤ (w2.alloc (.cells #[.string sx, .int .i64 x1, .int .i64 x2] 26)).heap.size) := Nat.le_trans HB2.out.size (alloc_le _ _)
          clear hb2 C a1 a2 a3
          go_wp2_with (at_builtin; refine wpList_append_own_at _ rfl (.tmp 34) (.tmp 39) 22 rfl w.heap.size 26 i0 (.agg #[.string ⟨#[]⟩, .int .i64 0, .int .i64 0]) 3 32 Tryd.underlying22 hi0 hz0 hz1 hz2 rfl (by decide) u7 D.length (flat D) rfl (HO2.out.alloc _) ⟨w2.heap.size, 0, none⟩ 1 1 (flat [(sx, (x1, x2))]) rfl rfl (mark_new w2 (sx, (x1, x2)) _) (flat_one _) hm3 hm4 HS3.out ?_; intro v' w3 hown' hgrow _ hat; have HB3 : Hid (Below w.heap.size w w3) := own_grow HO2.out (HB2.out.alloc HB2.out.size _) hgrow HS3.out; have HW4 : Hid (w3.ownsRow w.heap.size 26 3 v' (D ++ [(sx, (x1, x2))]).length (flat (D ++ [(sx, (x1, x2))]))) := own_app rfl rfl hown'; clear hown' hgrow hat)
          rw [← HT2.out] at HW4
          go_roundw
          case rel => exact ⟨k + 1, by omega, by go_num, HW4, HB3⟩
          case measure => simp [intOf]; omega
        · have hne : ¬ sx.toList = p.toList := fun e => hpe (Bm.bytes_inj e)
          have hnb : (sx.toList == p.toList) = false := by simpa using hne
          obtain ⟨tt, htt⟩ : ∃ tt, tt = decide ((x1, x2) ∈ s) := ⟨_, rfl⟩
          rw [← htt] at C
          clear hgo hpe hne htt
          go_wp2_with fail
          refine C.mono ?_
          rintro e w2 ⟨rfl, hb2⟩
          have HB2 : Hid (Below w.heap.size w w2) := bel HB.out hb2
          have HO2 : Hid (w2.ownsRow w.heap.size 26 3 u7 D.length (flat D)) := own_below HO.out hb2
          have b1 := keep_cell hb2 a1
          have b2 := keep_cell hb2 a2
          have b3 := keep_cell hb2 a3
          have HS3 : Hid (w.heap.size ≤ (w2.alloc (.cells #[.string sx, .int .i64 x1, .int .i64 x2] 26)).heap.size) := Nat.le_trans HB2.out.size (alloc_le _ _)
          clear hb2 C a1 a2 a3
          go_wp2_with (at_builtin; refine wpList_append_own_at _ rfl (.tmp 34) (.tmp 39) 22 rfl w.heap.size 26 i0 (.agg #[.string ⟨#[]⟩, .int .i64 0, .int .i64 0]) 3 32 Tryd.underlying22 hi0 hz0 hz1 hz2 rfl (by decide) u7 D.length (flat D) rfl (HO2.out.alloc _) ⟨w2.heap.size, 0, none⟩ 1 1 (flat [(sx, (x1, x2))]) rfl rfl (mark_new w2 (sx, (x1, x2)) _) (flat_one _) hm3 hm4 HS3.out ?_; intro v' w3 hown' hgrow _ hat; have HB3 : Hid (Below w.heap.size w w3) := own_grow HO2.out (HB2.out.alloc HB2.out.size _) hgrow HS3.out; have HW4 : Hid (w3.ownsRow w.heap.size 26 3 v' (D ++ [(sx, (x1, x2))]).length (flat (D ++ [(sx, (x1, x2))]))) := own_app rfl rfl hown'; clear hown' hgrow hat)
          rw [← HT2.out] at HW4
          go_roundw
          case rel => exact ⟨k + 1, by omega, by go_num, HW4, HB3⟩
          case measure => simp [intOf]; omega
    · obtain rfl : k = n := by omega
      have HD : Hid (MksNew w.heap.size wr u7 (without l p s)) := by
        refine ⟨?_, La.Lies.own HO.out⟩
        have := own_mks HO.out
        rwa [List.take_of_length_le (by rw [HL.out]; exact Nat.le_refl _)] at this
      go_wp2_with fail
      go_ret
      exact ⟨_, rfl, HD.out, HB.out⟩

theorem without_ref (v : Value) (l : List Mk) (p : ByteArray) (vs : Value) (s : List Dt) (w : World) (hA : MksAt w v l) (hn : l.length ≤ 40) (hd : DtsAt w vs s) (hsn : s.length ≤ 1048576) :
    Calls Tryd.prog 19 #[v, .string p, vs] w fun e w' => ∃ v', e = .returned v' ∧ MksAt w' v' (without l p s) ∧ Below w.heap.size w w' :=
  (without_loc v l p vs s w hA hn hd hsn).mono fun e w' ⟨v', h1, h2, h3⟩ => ⟨v', h1, h2.1, h3⟩

end We
end Go.Proofs.YtcmoajlcmeimiaaDoor
