/- When two ops, two rows of ops are the same. -/
import Derived.Test.YtonbohekiliepaaJ7
import Derived.Laws.StructEq
namespace Go.Proofs.Ytonbohekiliepaa
namespace Ol
set_option linter.unusedVariables false
open Go.ChangeShapes Go.WideShapes Go.ChangeAt Go.RowKit Cm Ka Kb Na Om Oa Oz Oc Og Oi
open La (bel bel_drew errV_zero errV_ne own_ge own_grow own_below)

theorem dot_same {n m a b : Int} : decide (((n, a) : Dt) = (m, b)) = (n == m && a == b) := by
  rw [Bool.eq_iff_iff]; simp
theorem eql_dot (n m a b : Int) (w : World) : (binOp .eql 27 (.agg #[.int .i64 n, .int .i64 a]) (.agg #[.int .i64 m, .int .i64 b])).run Try.prog w = .ok (.bool (decide (((n, a) : Dt) = (m, b)))) w := by
  have u3 := Try.underlying3
  have a3 := Try.isAgg3
  have z3 := Try.sizeOf3
  have hS : Try.prog.underlying 27 = some (.struct (Try.prog.fieldsOf 27)) := by kernel_rfl
  have hp : Try.prog.stoodInHeld 27 = false := by kernel_rfl
  rw [run_eql_struct, show (10000 : Nat) = 9999 + 1 from rfl, run_equalIn_agg w 9999 27 _ _ hS hp]
  simp only [Program.fieldsOf, Try.underlying27]
  rw [dot_same]
  go_simp
  by_cases h2 : n = m <;> by_cases h3 : a = b <;> simp [h2, h3]

theorem neq_dot (n m a b : Int) (w : World) : (binOp .neq 27 (.agg #[.int .i64 n, .int .i64 a]) (.agg #[.int .i64 m, .int .i64 b])).run Try.prog w = .ok (.bool (!decide (((n, a) : Dt) = (m, b)))) w := by
  have u3 := Try.underlying3
  have a3 := Try.isAgg3
  have z3 := Try.sizeOf3
  have hS : Try.prog.underlying 27 = some (.struct (Try.prog.fieldsOf 27)) := by kernel_rfl
  have hp : Try.prog.stoodInHeld 27 = false := by kernel_rfl
  rw [run_neq_struct, show (10000 : Nat) = 9999 + 1 from rfl, run_equalIn_agg w 9999 27 _ _ hS hp]
  simp only [Program.fieldsOf, Try.underlying27]
  rw [dot_same]
  go_simp
  by_cases h2 : n = m <;> by_cases h3 : a = b <;> simp [h2, h3]

set_option maxHeartbeats 1000000 in
theorem dots_any (v u : Value) (a b : List Dt) (w : World) (h1 : DtsAt w v a) (h2 : DtsAt w u b) (hn : a.length ≤ 1048576) :
    Calls Try.prog 45 #[v, u] w fun e w' => e = .returned (.bool (decide (a = b))) ∧ Below w.heap.size w w' := by
  obtain ⟨p, c, rfl, hlf, _⟩ := h1
  obtain ⟨q, d, rfl, hlg, _⟩ := h2
  obtain ⟨n, ha⟩ : ∃ n, a.length = n := ⟨_, rfl⟩
  obtain ⟨m, hb⟩ : ∃ m, b.length = m := ⟨_, rfl⟩
  rw [ha, hb]
  rw [ha] at hn
  by_cases hnm : n = m
  · subst hnm
    have HA : Hid (a.length = n) := ha
    have HB : Hid (b.length = n) := hb
    have HF : Hid (DotsIn w p a) := hlf
    have HG : Hid (DotsIn w q b) := hlg
    clear ha hb hlf hlg
    go_enter Try.func45, Try.ntmps45
    go_wp2
    go_loopw [5] (fun i wr => ∃ k : Nat, k ≤ n ∧ i = .int .i64 k ∧ Hid (∀ j, j < k → a.getD j noneD = b.getD j noneD) ∧ Hid (Below w.heap.size w wr)) (fun i _ => n - (intOf i).toNat)
    case atStart => exact ⟨0, by omega, rfl, fun j hj => absurd hj (by omega), Below.refl _ _⟩
    case round =>
      obtain ⟨k, hk, rfl, HK, HBE⟩ := hrel
      by_cases hlt : k < n
      · have hltz : (k : Int) < n := by omega
        obtain ⟨b1, o1, rfl, c1⟩ := HF.out.some (by intro e; have := HA.out; rw [e] at this; simp at this; omega)
        obtain ⟨b2, o2, rfl, c2⟩ := HG.out.some (by intro e; have := HB.out; rw [e] at this; simp at this; omega)
        have e1 := (c1 k (by rw [HA.out]; exact hlt)).below HBE.out (c1 k (by rw [HA.out]; exact hlt)).lt
        have e2 := (c2 k (by rw [HB.out]; exact hlt)).below HBE.out (c2 k (by rw [HB.out]; exact hlt)).lt
        obtain ⟨x, hx⟩ : ∃ x, x = a.getD k noneD := ⟨_, rfl⟩
        obtain ⟨y, hy⟩ : ∃ y, y = b.getD k noneD := ⟨_, rfl⟩
        rw [← hx] at e1
        rw [← hy] at e2
        have HX : Hid (x = a.getD k noneD) := hx
        have HY : Hid (y = b.getD k noneD) := hy
        clear hx hy c1 c2
        obtain ⟨nx, bx⟩ := x
        obtain ⟨ny, by'⟩ := y
        obtain ⟨x1, x2⟩ := e1
        obtain ⟨y1, y2⟩ := e2
        simp only at x1 x2 y1 y2
        have hq : ∀ w, (binOp .neq 27 (.agg #[.int .i64 nx, .int .i64 bx]) (.agg #[.int .i64 ny, .int .i64 by'])).run Try.prog w = .ok (.bool (!decide (((nx, bx) : Dt) = (ny, by')))) w := fun w => neq_dot nx ny bx by' w
        have hg : Try.prog.eqGuardType Try.prog.depth 27 = false := by kernel_rfl
        by_cases hxy : ((nx, bx) : Dt) = (ny, by')
        · rw [decide_eq_true hxy] at hq
          have HXY : Hid (((nx, bx) : Dt) = (ny, by')) := hxy
          clear hxy
          go_wp2
          go_quiet (fail)
          go_wp2
          go_roundw
          case rel => exact ⟨k + 1, by omega, by go_num, fun j hj => by
            rcases Nat.lt_succ_iff_lt_or_eq.1 hj with h | rfl
            · exact HK.out j h
            · rw [← HX.out, ← HY.out]; exact HXY.out, bel_drew HBE.out _⟩
          case measure => simp [intOf]; omega
        · rw [decide_eq_false hxy] at hq
          have HNE : Hid (decide (a = b) = false) := by
            rw [Hid, decide_eq_false_iff_not]; intro e
            apply hxy; rw [HX.out, HY.out, e]
          clear hxy
          go_wp2
          go_quiet (fail)
          go_wp2
          go_ret
          exact ⟨by rw [HNE.out]; rfl, bel_drew HBE.out _⟩
      · obtain rfl : k = n := by omega
        have HEQ : Hid (decide (a = b) = true) := by
          rw [Hid, decide_eq_true_eq]
          apply List.ext_getElem?
          intro i
          by_cases hi : i < k
          · have := HK.out i hi
            rw [List.getD_eq_getElem?_getD, List.getD_eq_getElem?_getD, List.getElem?_eq_getElem (by rw [HA.out]; exact hi), List.getElem?_eq_getElem (by rw [HB.out]; exact hi)] at this
            rw [List.getElem?_eq_getElem (by rw [HA.out]; exact hi), List.getElem?_eq_getElem (by rw [HB.out]; exact hi)]
            simpa using this
          · rw [List.getElem?_eq_none (by rw [HA.out]; omega), List.getElem?_eq_none (by rw [HB.out]; omega)]
        go_wp2
        go_ret
        exact ⟨by rw [HEQ.out]; rfl, HBE.out⟩
  · have hnm' : ((n : Int) == (m : Int)) = false := by simp; omega
    have HE : Hid (decide (a = b) = false) := by
      rw [Hid, decide_eq_false_iff_not]; rintro rfl; omega
    clear ha hb hlf hlg
    go_enter Try.func45, Try.ntmps45
    go_wp2
    go_ret
    exact ⟨by rw [HE.out]; rfl, Below.refl _ _⟩



theorem six_two (w : World) (xa xb xt : Int) (xp : ByteArray) (xc : Int) (xv : Value) (ya yb yt : Int) (yp : ByteArray) (yc : Int) (yv : Value) (w2 : World) (hb : Below ((w.alloc (.cells #[.int .i64 xa, .int .i64 xb, .int .i64 xt, .string xp, .int .i64 xc, xv] 30)).alloc (.cells #[.int .i64 ya, .int .i64 yb, .int .i64 yt, .string yp, .int .i64 yc, yv] 30)).heap.size ((w.alloc (.cells #[.int .i64 xa, .int .i64 xb, .int .i64 xt, .string xp, .int .i64 xc, xv] 30)).alloc (.cells #[.int .i64 ya, .int .i64 yb, .int .i64 yt, .string yp, .int .i64 yc, yv] 30)) w2) :
    Six w2 w.heap.size xa xb xt xp xc xv ∧ Six w2 (w.heap.size + 1) ya yb yt yp yc yv := by
  constructor
  · have h1 := six_new w xa xb xt xp xc xv 30
    exact (h1.below ((Below.refl _ _).alloc (Nat.le_refl _) _)).below hb
  · have h1 := six_new (w.alloc (.cells #[.int .i64 xa, .int .i64 xb, .int .i64 xt, .string xp, .int .i64 xc, xv] 30)) ya yb yt yp yc yv 30
    rw [show (w.alloc (.cells #[.int .i64 xa, .int .i64 xb, .int .i64 xt, .string xp, .int .i64 xc, xv] 30)).heap.size = w.heap.size + 1 by simp] at h1
    exact h1.below hb
set_option maxRecDepth 100000 in
set_option maxHeartbeats 2000000 in
theorem same_op (xa xb xt : Int) (xp : ByteArray) (xc : Int) (xv : Value) (xs : List Dt) (ya yb yt : Int) (yp : ByteArray) (yc : Int) (yv : Value) (ys : List Dt) (w : World) (h1 : DtsAt w xv xs) (h2 : DtsAt w yv ys) (hn : xs.length ≤ 1048576) :
    Calls Try.prog 24 #[.agg #[.int .i64 xa, .int .i64 xb, .int .i64 xt, .string xp, .int .i64 xc, xv], .agg #[.int .i64 ya, .int .i64 yb, .int .i64 yt, .string yp, .int .i64 yc, yv]] w fun e w' =>
      e = .returned (.bool (decide ((((xa, xb), xt, xp, xc, xs) : Ox) = ((ya, yb), yt, yp, yc, ys)))) ∧ Below w.heap.size w w' := by
  have HB0 : Hid (Below w.heap.size w ((w.alloc (.cells #[.int .i64 xa, .int .i64 xb, .int .i64 xt, .string xp, .int .i64 xc, xv] 30)).alloc (.cells #[.int .i64 ya, .int .i64 yb, .int .i64 yt, .string yp, .int .i64 yc, yv] 30))) := ((Below.refl _ w).alloc (Nat.le_refl _) _).alloc (by simp) _
  have C := dots_any xv yv xs ys ((w.alloc (.cells #[.int .i64 xa, .int .i64 xb, .int .i64 xt, .string xp, .int .i64 xc, xv] 30)).alloc (.cells #[.int .i64 ya, .int .i64 yb, .int .i64 yt, .string yp, .int .i64 yc, yv] 30)) (h1.below HB0.out) (h2.below HB0.out) hn
  obtain ⟨px, cx, rfl, _⟩ := h1
  obtain ⟨py, cy, rfl, _⟩ := h2
  obtain ⟨nx, hnx⟩ : ∃ nx, nx = xs.length := ⟨_, rfl⟩
  obtain ⟨ny, hny⟩ : ∃ ny, ny = ys.length := ⟨_, rfl⟩
  rw [← hnx, ← hny] at C
  rw [← hnx, ← hny]
  have HS : Hid (∀ w2, Below ((w.alloc (.cells #[.int .i64 xa, .int .i64 xb, .int .i64 xt, .string xp, .int .i64 xc, (.slice px nx cx)] 30)).alloc (.cells #[.int .i64 ya, .int .i64 yb, .int .i64 yt, .string yp, .int .i64 yc, (.slice py ny cy)] 30)).heap.size ((w.alloc (.cells #[.int .i64 xa, .int .i64 xb, .int .i64 xt, .string xp, .int .i64 xc, (.slice px nx cx)] 30)).alloc (.cells #[.int .i64 ya, .int .i64 yb, .int .i64 yt, .string yp, .int .i64 yc, (.slice py ny cy)] 30)) w2 → Six w2 w.heap.size xa xb xt xp xc (.slice px nx cx) ∧ Six w2 (w.heap.size + 1) ya yb yt yp yc (.slice py ny cy)) := fun w2 hb => six_two w _ _ _ _ _ _ _ _ _ _ _ _ w2 hb
  have HK : Hid (∀ w2, Below ((w.alloc (.cells #[.int .i64 xa, .int .i64 xb, .int .i64 xt, .string xp, .int .i64 xc, (.slice px nx cx)] 30)).alloc (.cells #[.int .i64 ya, .int .i64 yb, .int .i64 yt, .string yp, .int .i64 yc, (.slice py ny cy)] 30)).heap.size ((w.alloc (.cells #[.int .i64 xa, .int .i64 xb, .int .i64 xt, .string xp, .int .i64 xc, (.slice px nx cx)] 30)).alloc (.cells #[.int .i64 ya, .int .i64 yb, .int .i64 yt, .string yp, .int .i64 yc, (.slice py ny cy)] 30)) w2 → Below w.heap.size w w2) := fun w2 hb => bel (((Below.refl _ w).alloc (Nat.le_refl _) _).alloc (by simp) _) hb
  have hq : ∀ w, (binOp .eql 27 (.agg #[.int .i64 xa, .int .i64 xb]) (.agg #[.int .i64 ya, .int .i64 yb])).run Try.prog w = .ok (.bool (decide (((xa, xb) : Dt) = (ya, yb)))) w := fun w => eql_dot xa ya xb yb w
  have hg : Try.prog.eqGuardType Try.prog.depth 27 = false := by kernel_rfl
  clear hnx hny hn HB0
  by_cases c5 : xs = ys
  case neg =>
    rw [decide_eq_false c5] at C
    have HE : Hid (decide ((((xa, xb), xt, xp, xc, xs) : Ox) = ((ya, yb), yt, yp, yc, ys)) = false) := by
      rw [Hid, decide_eq_false_iff_not]; intro e; exact c5 (congrArg (fun z : Ox => z.2.2.2.2) e)
    clear c5
    go_enter Try.func24, Try.ntmps24
    go_wp2_with fail
    refine C.mono ?_
    rintro e w2 ⟨rfl, hb2⟩
    obtain ⟨⟨d0, d1, d2, d3, d4, d5⟩, ⟨e0, e1, e2, e3, e4, e5⟩⟩ := HS.out w2 hb2
    have K2 : Hid (Below w.heap.size w w2) := HK.out w2 hb2
    clear hb2 C
    go_wp2_with fail
    go_ret
    exact ⟨by rw [HE.out]; rfl, K2.out⟩
  rw [decide_eq_true c5] at C
  by_cases c1 : ((xa, xb) : Dt) = (ya, yb)
  case neg =>
    rw [decide_eq_false c1] at hq
    have HE : Hid (decide ((((xa, xb), xt, xp, xc, xs) : Ox) = ((ya, yb), yt, yp, yc, ys)) = false) := by
      rw [Hid, decide_eq_false_iff_not]; intro e; exact c1 (congrArg (fun z : Ox => z.1) e)
    clear c1 c5
    go_enter Try.func24, Try.ntmps24
    go_wp2_with fail
    refine C.mono ?_
    rintro e w2 ⟨rfl, hb2⟩
    obtain ⟨⟨d0, d1, d2, d3, d4, d5⟩, ⟨e0, e1, e2, e3, e4, e5⟩⟩ := HS.out w2 hb2
    have K2 : Hid (Below w.heap.size w w2) := HK.out w2 hb2
    clear hb2 C
    go_wp2_with fail
    go_ret
    exact ⟨by rw [HE.out]; rfl, K2.out⟩
  rw [decide_eq_true c1] at hq
  by_cases c2 : xt = yt
  case neg =>
    have b2 : (xt == yt) = false := by simpa using c2
    have HE : Hid (decide ((((xa, xb), xt, xp, xc, xs) : Ox) = ((ya, yb), yt, yp, yc, ys)) = false) := by
      rw [Hid, decide_eq_false_iff_not]; intro e; exact c2 (congrArg (fun z : Ox => z.2.1) e)
    clear c1 c2 c5
    go_enter Try.func24, Try.ntmps24
    go_wp2_with fail
    refine C.mono ?_
    rintro e w2 ⟨rfl, hb2⟩
    obtain ⟨⟨d0, d1, d2, d3, d4, d5⟩, ⟨e0, e1, e2, e3, e4, e5⟩⟩ := HS.out w2 hb2
    have K2 : Hid (Below w.heap.size w w2) := HK.out w2 hb2
    clear hb2 C
    go_wp2_with fail
    go_ret
    exact ⟨by rw [HE.out]; rfl, K2.out⟩
  have b2 : (xt == yt) = true := by simpa using c2
  by_cases c3 : xp = yp
  case neg =>
    have b3 : (xp.toList == yp.toList) = false := by
      cases h9 : (xp.toList == yp.toList)
      · rfl
      · exact absurd (mk_eq (by simpa using h9)) c3
    have HE : Hid (decide ((((xa, xb), xt, xp, xc, xs) : Ox) = ((ya, yb), yt, yp, yc, ys)) = false) := by
      rw [Hid, decide_eq_false_iff_not]; intro e; exact c3 (congrArg (fun z : Ox => z.2.2.1) e)
    clear c1 c2 c3 c5
    go_enter Try.func24, Try.ntmps24
    go_wp2_with fail
    refine C.mono ?_
    rintro e w2 ⟨rfl, hb2⟩
    obtain ⟨⟨d0, d1, d2, d3, d4, d5⟩, ⟨e0, e1, e2, e3, e4, e5⟩⟩ := HS.out w2 hb2
    have K2 : Hid (Below w.heap.size w w2) := HK.out w2 hb2
    clear hb2 C
    go_wp2_with fail
    go_ret
    exact ⟨by rw [HE.out]; rfl, K2.out⟩
  have b3 : (xp.toList == yp.toList) = true := by rw [c3]; simp
  by_cases c4 : xc = yc
  case neg =>
    have b4 : (xc == yc) = false := by simpa using c4
    have HE : Hid (decide ((((xa, xb), xt, xp, xc, xs) : Ox) = ((ya, yb), yt, yp, yc, ys)) = false) := by
      rw [Hid, decide_eq_false_iff_not]; intro e; exact c4 (congrArg (fun z : Ox => z.2.2.2.1) e)
    clear c1 c2 c3 c4 c5
    go_enter Try.func24, Try.ntmps24
    go_wp2_with fail
    refine C.mono ?_
    rintro e w2 ⟨rfl, hb2⟩
    obtain ⟨⟨d0, d1, d2, d3, d4, d5⟩, ⟨e0, e1, e2, e3, e4, e5⟩⟩ := HS.out w2 hb2
    have K2 : Hid (Below w.heap.size w w2) := HK.out w2 hb2
    clear hb2 C
    go_wp2_with fail
    go_ret
    exact ⟨by rw [HE.out]; rfl, K2.out⟩
  have b4 : (xc == yc) = true := by simpa using c4
  have HE : Hid (decide ((((xa, xb), xt, xp, xc, xs) : Ox) = ((ya, yb), yt, yp, yc, ys)) = true) := by
    rw [Hid, decide_eq_true_eq, c1, c2, c3, c4, c5]
  clear c1 c2 c3 c4 c5
  go_enter Try.func24, Try.ntmps24
  go_wp2_with fail
  refine C.mono ?_
  rintro e w2 ⟨rfl, hb2⟩
  obtain ⟨⟨d0, d1, d2, d3, d4, d5⟩, ⟨e0, e1, e2, e3, e4, e5⟩⟩ := HS.out w2 hb2
  have K2 : Hid (Below w.heap.size w w2) := HK.out w2 hb2
  clear hb2 C
  go_wp2_with fail
  go_ret
  exact ⟨by rw [HE.out]; rfl, K2.out⟩

end Ol
end Go.Proofs.Ytonbohekiliepaa
