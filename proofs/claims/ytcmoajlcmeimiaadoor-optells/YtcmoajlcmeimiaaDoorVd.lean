/- What the small functions of package op answer that set bytes behind a row: appendTwo, appendDot, sum. -/
import Derived.Test.YtcmoajlcmeimiaaDoorVc
import Derived.Deep.AppendLies
import Derived.Lib.AppendStr
namespace Go.Proofs.YtcmoajlcmeimiaaDoor
namespace Vd
set_option linter.unusedVariables false
open Go.ChangeShapes Go.WideShapes Go.ChangeAt Go.RowKit Cm Ka Kb Na Om Oa Oz Oc Og Oi Ov Va Vb Vc
open La (bel bel_drew errV_zero errV_ne own_ge own_grow own_below)

/- a row grows: no other block is written -/
def Grew (w w' : World) (v v' : Value) : Prop := w.grownBy w' v.ownBlock ∧ (v'.ownBlock = v.ownBlock ∨ ∀ k, v'.ownBlock = some k → w.heap.size ≤ k)
theorem Grew.trans {w w1 w2 : World} {v v1 v2 : Value} (h : Grew w w1 v v1) (k : Grew w1 w2 v1 v2) : Grew w w2 v v2 := by
  obtain ⟨g, e⟩ := h
  obtain ⟨g2, e2⟩ := k
  refine ⟨⟨g2.os.trans g.os, g2.tape.trans g.tape, g2.output.trans g.output, Nat.le_trans g.size g2.size, fun j hj hne => ?_⟩, ?_⟩
  · refine (g2.block j (Nat.lt_of_lt_of_le hj g.size) ?_).trans (g.block j hj hne)
    intro e3
    rcases e with e | e
    · exact hne (e3.trans e)
    · have := e j e3.symm; omega
  · rcases e2 with e2 | e2
    · rcases e with e | e
      · exact Or.inl (e2.trans e)
      · exact Or.inr fun j hj => e j (e2.symm.trans hj)
    · exact Or.inr fun j hj => Nat.le_trans g.size (e2 j hj)
theorem Grew.alloc (w : World) (v : Value) (o : Obj) : Grew w (w.alloc o) v v := ⟨World.grownBy_alloc w o _, Or.inl rfl⟩
theorem Grew.drew {w w' : World} {v v' : Value} (h : Grew w w' v v') : Grew w w'.drew v v' := ⟨⟨h.1.os, h.1.tape, h.1.output, h.1.size, h.1.block⟩, h.2⟩
theorem Grew.below {w w' : World} {B : Nat} {v v' : Value} {l : List UInt8} (h : Grew w w' v v') (hr : Row w B v l) (hB : B ≤ w.heap.size) : Below B w w' :=
  ⟨h.1.os, h.1.tape, h.1.output, h.1.size, fun k hk => h.1.block k (by omega) (fun e => by have := (World.ownsRow.lt hr k e.symm).1; omega)⟩
theorem Grew.ne {w w' : World} {v v' : Value} {k : Nat} (h : Grew w w' v v') (hk : k < w.heap.size) (hne : some k ≠ v.ownBlock) : some k ≠ v'.ownBlock := by
  intro e
  rcases h.2 with h | h
  · exact hne (e.trans h)
  · have := h k e.symm; omega
theorem Grew.cell {w w' : World} {v v' : Value} (h : Grew w w' v v') {p : Addr} {u : Value} (hc : w.cell? p = some u) (hne : some p.block ≠ v.ownBlock) : w'.cell? p = some u := h.1.cell hc hne

/- two bytes more: their own block has just been laid -/
theorem two_new (w : World) (x y : Value) (t : TypeId) : (w.alloc (.cells #[x, y] t)).cell? ⟨w.heap.size, 0, none⟩ = some x ∧ (w.alloc (.cells #[x, y] t)).cell? ⟨w.heap.size, 1, none⟩ = some y := by
  have h2 := heap_alloc_new w (.cells #[x, y] t)
  constructor <;> (simp only [World.cell?, h2]; rfl)
theorem wpList_put2 {ops : Array Oper} {rest : List Oper} {o : Oper} {a : Act} {Q : Exit → Act → World → Prop} (wr : World) (hgd : o.guard = none) (sO xO : Operand)
    (ho : o.op = .call { callee := .builtin .append, args := #[sO, xO], argTypes := #[92, 92] })
    (B : Nat) (v : Value) (l : List UInt8) (x y : Int) (c d : UInt8) (t : TypeId) (hs : a.eval sO = v) (hown : Row wr B v l) (h0 : Nat) (hx : a.eval xO = .slice (some ⟨h0, 0, none⟩) 2 2) (hh : h0 = wr.heap.size)
    (hc : x = (c.toNat : Int)) (hd : y = (d.toNat : Int)) (hlen : l.length + 2 ≤ 1000000000) (hB : B ≤ wr.heap.size)
    (h : ∀ v' w', Row w' B v' (l ++ [c, d]) → Grew wr w' v v' → wpList Tryd.prog ops Q rest (a.put o.dst v') w') :
    wpList Tryd.prog ops Q (o :: rest) a (wr.alloc (.cells #[.int .u8 x, .int .u8 y] t)) := by
  subst hh
  obtain ⟨i0, hi, hz0, hz1, hz2⟩ := info_parts info5
  obtain ⟨k0, k1⟩ := two_new wr (.int .u8 x) (.int .u8 y) t
  refine wpList_append_own_at _ hgd sO xO 92 ho B 5 i0 (.int .u8 0) 1 1 Tryd.underlying92 hi hz0 hz1 hz2 rfl (by decide) v l.length (bc l) hs (Row.alloc hown _) ⟨wr.heap.size, 0, none⟩ 2 2 (bc [c, d]) hx rfl ?_ (bc_one _) (by unfold maxLen; omega) (by omega) (by simp; omega) ?_
  · intro j u hu
    obtain ⟨hj, rfl⟩ := bc_get hu
    rw [addr_zero]
    rcases j with _ | _ | j
    · rw [k0, hc]; rfl
    · rw [k1, hd]; rfl
    · simp at hj; omega
  · intro v' w' hown' hg _ hat
    refine h v' w' ?_ ((Grew.alloc wr v _).trans ⟨hg, ?_⟩)
    · unfold Row
      rw [List.length_append, bc_append]; exact hown'
    · rcases hat with e | e
      · exact Or.inl e
      · refine Or.inr fun k hk => ?_
        rw [e] at hk; injection hk with hk; omega
/- one byte more, at a step of a region that draws -/
theorem step_put1 {ops : Array Oper} {o : Oper} {a : Act} {W : World} {K : Act → World → Prop} {Q : Exit → Act → World → Prop} {E : Prop} (hgd : o.guard = none) (sO xO : Operand)
    (ho : o.op = .call { callee := .builtin .append, args := #[sO, xO], argTypes := #[92, 92] })
    (B : Nat) (v : Value) (l : List UInt8) (x : Int) (c : UInt8) (hs : a.eval sO = v) (h0 : Nat) (hx : a.eval xO = .slice (some ⟨h0, 0, none⟩) 1 1)
    (hc : x = (c.toNat : Int)) (hlen : l.length + 1 ≤ 1000000000) (hown : Row W B v l) (hB : B ≤ W.heap.size) (hcell : W.cell? ⟨h0, 0, none⟩ = some (.int .u8 x))
    (h : ∀ v' w', Row w' B v' (l ++ [c]) → Grew W w' v v' → K (a.put o.dst v') w') :
    if Region.wanted o (yielded ops a.tmps) = true then Oper.wp Tryd.prog o a W K Q else E := by
  have hw : Region.wanted o (yielded ops a.tmps) = true := by simp [Region.wanted, hgd]
  rw [if_pos hw]
  obtain ⟨i0, hi, hz0, hz1, hz2⟩ := info_parts info5
  obtain ⟨v', w', hr, h2, h3, _, h5⟩ := run_append_own_at (P := Tryd.prog) W B 92 o.type 5 i0 (.int .u8 0) 1 1 Tryd.underlying92 hi hz0 hz1 hz2 rfl (by decide) v l.length (bc l) hown ⟨h0, 0, none⟩ 1 1 (bc [c]) rfl (by
    intro j u hu
    obtain ⟨hj, rfl⟩ := bc_get hu
    rw [addr_zero]
    rcases j with _ | j
    · rw [hcell, hc]; rfl
    · simp at hj) (bc_one _) (by unfold maxLen; omega) (by omega) hB
  unfold Oper.wp execOp
  simp only [ho, resolve, invoke, builtin, Sem.run_bind, Sem.run_pure, Result.andThen_ok, List.map_toArray, List.map_cons, List.map_nil, hs, hx, hr]
  refine h v' w' ?_ ⟨h3, ?_⟩
  · unfold Row
    rw [List.length_append, bc_append]; exact h2
  · rcases h5 with e | e
    · exact Or.inl e
    · refine Or.inr fun k hk => ?_
      rw [e] at hk; injection hk with hk; omega

set_option maxHeartbeats 1000000 in
set_option maxRecDepth 100000 in
theorem appendTwo_any (B : Nat) (v : Value) (l : List UInt8) (n : Int) (w : World) (hv : Row w B v l) (hn0 : 0 ≤ n) (hn1 : n ≤ 65535) (hl : l.length ≤ 1000000) (hB : B ≤ w.heap.size) :
    Calls Tryd.prog 61 #[v, .int .i64 n] w fun e w' => ∃ v', e = .returned v' ∧ Row w' B v' (l ++ b2 n) ∧ Grew w w' v v' := by
  obtain ⟨p, N, c, rfl, _⟩ := hv.shape
  have HR : Hid (Row w B (.slice p N c) l) := hv
  have HL : Hid (l.length + 2 ≤ 1000000000) := by unfold Hid; omega
  have HA : Hid (n / 256 = ((u8 (n / 256)).toNat : Int)) := (u8_val (by omega) (by omega)).symm
  have HC : Hid (n % 256 = ((u8 (n % 256)).toNat : Int)) := (u8_val (by omega) (by omega)).symm
  clear hv hl
  go_enter Tryd.func61, Tryd.ntmps61
  go_wp2_with (at_builtin; refine wpList_put2 w rfl (.tmp 5) (.tmp 11) rfl B (.slice p N c) l _ _ (u8 (n / 256)) (u8 (n % 256)) _ rfl HR.out _ rfl rfl HA.out HC.out HL.out hB ?_; intro v1 w1 hr1 hg1; have HR1 : Hid (Row w1 B v1 (l ++ b2 n)) := hr1; have HG1 : Hid (Grew w w1 (.slice p N c) v1) := hg1; clear hr1 hg1)
  go_ret
  exact ⟨_, rfl, HR1.out, HG1.out⟩

set_option maxHeartbeats 1000000 in
set_option maxRecDepth 100000 in
theorem appendDot_any (B : Nat) (v : Value) (l : List UInt8) (a n : Int) (w : World) (hv : Row w B v l) (ha0 : 0 ≤ a) (ha1 : a ≤ 255) (hn0 : 0 ≤ n) (hn1 : n ≤ 65535) (hl : l.length ≤ 999999) (hB : B ≤ w.heap.size) :
    Calls Tryd.prog 55 #[v, .agg #[.int .i64 a, .int .i64 n]] w fun e w' => ∃ v', e = .returned v' ∧ Row w' B v' (l ++ (u8 a :: b2 n)) ∧ Below B w w' ∧ B ≤ w'.heap.size := by
  obtain ⟨p, N, c, rfl, _⟩ := hv.shape
  have HR : Hid (Row w B (.slice p N c) l) := hv
  have HL : Hid (l.length + 1 ≤ 1000000000) := by unfold Hid; omega
  have HL2 : Hid ((l ++ [u8 a]).length ≤ 1000000) := by unfold Hid; simp; omega
  have HA : Hid (IntKind.u8.wrap a = ((u8 a).toNat : Int)) := u8_wrap (by omega)
  have HN : Hid (some w.heap.size ≠ (Value.slice p N c).ownBlock) := fun e => by have := (World.ownsRow.lt hv w.heap.size e.symm).2; omega
  have HE : Hid (∀ W v1, Grew w W (.slice p N c) v1 → Below B w W ∧ B ≤ W.heap.size) := fun W v1 h => ⟨h.below hv hB, Nat.le_trans hB h.1.size⟩
  have HRW : Hid (∀ X Y, Row ((w.alloc X).alloc Y).drew B (.slice p N c) l) := fun X Y => show Row ((w.alloc X).alloc Y) B (.slice p N c) l from Row.alloc (Row.alloc hv X) Y
  have HGW : Hid (∀ X Y, Grew w ((w.alloc X).alloc Y).drew (.slice p N c) (.slice p N c)) := fun X Y => ((Grew.alloc w _ X).trans (Grew.alloc _ _ Y)).drew
  have HBW : Hid (∀ X Y, B ≤ ((w.alloc X).alloc Y).drew.heap.size) := fun X Y => by simp; omega
  have HSW : Hid (∀ X Y, w.heap.size < ((w.alloc X).alloc Y).drew.heap.size) := fun X Y => by simp; omega
  have HCW : Hid (∀ X x, ((w.alloc X).alloc (.cells #[x] 5)).drew.cell? ⟨w.heap.size + 1, 0, none⟩ = some x) := fun X x => by
    have := one_new (w.alloc X) x 5
    rwa [show (w.alloc X).heap.size = w.heap.size + 1 by simp] at this
  have HAS : Hid (l ++ [u8 a] ++ b2 n = l ++ (u8 a :: b2 n)) := by unfold Hid; rw [List.append_assoc]; rfl
  clear hv hl
  go_enter Tryd.func55, Tryd.ntmps55
  go_wp2_with fail
  go_region_held3 (fun W => W.cell? ⟨w.heap.size, 0, none⟩ = some (.int .i64 a) ∧ W.cell? ⟨w.heap.size, 1, none⟩ = some (.int .i64 n)) (first | (go_keep; done) | (refine ⟨hg2.cell ?_ HN1.out, hg2.cell ?_ HN1.out⟩ <;> (go_split_ands; assumption)) | (refine ⟨hg1.cell ?_ HN.out, hg1.cell ?_ HN.out⟩ <;> (go_split_ands; assumption))) (first
    | ((refine step_put1 (by rfl) (.tmp 5) (.tmp 9) (by rfl) B (.slice p N c) l _ (u8 a) (by rfl) (w.heap.size + 1) (by rfl) HA.out HL.out (HRW.out _ _) (HBW.out _ _) (HCW.out _ _) ?_; intro v1 w1 hr1 hg1; have HN1 : Hid (some w.heap.size ≠ v1.ownBlock) := hg1.ne (HSW.out _ _) HN.out; have HS1 : Hid (B ≤ w1.heap.size) := Nat.le_trans (HBW.out _ _) hg1.1.size))
    | (go_at_call 61; refine (appendTwo_any B v1 (l ++ [u8 a]) n _ hr1 hn0 hn1 HL2.out HS1.out).mono ?_; rintro e w2 ⟨v2, rfl, hr2, hg2⟩))
  all_goals
    have HR2 : Hid (Row w2 B v2 (l ++ (u8 a :: b2 n))) := by unfold Hid; rw [← HAS.out]; exact hr2
    have HG2 : Hid (Grew w w2 (.slice p N c) v2) := ((HGW.out _ _).trans hg1).trans hg2
    clear hr1 hr2 hg1 hg2
    go_wp2_with fail
    go_ret
    exact ⟨_, rfl, HR2.out, (HE.out _ _ HG2.out).1, (HE.out _ _ HG2.out).2⟩

theorem Row.full {w : World} {B : Nat} {v : Value} {l : List UInt8} (h : Row w B v l) (hl : l ≠ []) : ∃ g N c, v = .slice (some ⟨g, 0, none⟩) N c ∧ Hid (N = l.length) ∧ Hid (∀ j, j < l.length → w.cell? ⟨g, j, none⟩ = some (.int .u8 ((l.getD j 0).toNat : Int))) := by
  obtain ⟨p, c, rfl, h1, h2⟩ := h.slice
  obtain ⟨g, rfl, _⟩ := h1 hl
  exact ⟨g, _, c, rfl, rfl, h2 g rfl⟩
theorem sum_step {l : List UInt8} {k : Nat} (hk : k < l.length) : sumB (l.take (k + 1)) = sumB (l.take k) + ((l.getD k 0).toNat : Int) := by
  rw [List.take_add_one, List.getElem?_eq_getElem hk, List.getD_eq_getElem?_getD, List.getElem?_eq_getElem hk]
  exact sumB_snoc _ _
theorem sum_any (B : Nat) (v : Value) (LL : List UInt8) (w : World) (hv : Row w B v LL) (hne : LL ≠ []) (hl : LL.length ≤ 1000000) :
    Calls Tryd.prog 56 #[v] w fun e w' => e = .returned (.int .u8 ((u8 (sumB LL % 253)).toNat : Int)) ∧ w' = w := by
  obtain ⟨g, N, c, rfl, HNN, HC⟩ := Row.full hv hne
  have hNL : N ≤ 1000000 := by rw [HNN.out]; exact hl
  clear hv hne hl
  go_enter Tryd.func56, Tryd.ntmps56
  go_wp2_with fail
  go_loop [3, 8] (fun sm i => ∃ (k : Nat) (S : Int), k ≤ N ∧ i = .int .i64 k ∧ sm = .int .i64 S ∧ 0 ≤ S ∧ S ≤ 255 * k ∧ Hid (S = sumB (LL.take k))) (fun _ i => N - (intOf i).toNat)
  case atStart => exact ⟨0, 0, by omega, rfl, rfl, by omega, by omega, rfl⟩
  case round =>
    obtain ⟨k, S, hk, rfl, rfl, hS0, hS1, HSS⟩ := hrel
    by_cases hlt : k < N
    · have hltz : (k : Int) < N := by omega
      have hkL : k < LL.length := by rw [← HNN.out]; exact hlt
      have hcell := HC.out k hkL
      have HST := sum_step hkL
      obtain ⟨x, hx⟩ : ∃ x, x = LL.getD k 0 := ⟨_, rfl⟩
      rw [← hx] at hcell HST
      have hxb : x.toNat < 256 := UInt8.toNat_lt x
      obtain ⟨z, hz⟩ : ∃ z : Int, z = (x.toNat : Int) := ⟨_, rfl⟩
      rw [← hz] at hcell HST
      have hz0 : 0 ≤ z := by omega
      have hz1 : z ≤ 255 := by omega
      have HST2 : Hid (S + z = sumB (LL.take (k + 1))) := by unfold Hid; rw [HST, HSS.out]
      clear hx hz hxb HST hkL
      go_wp2_with fail
      go_round
      case rel => exact ⟨k + 1, S + z, by omega, by go_num, by go_num, by omega, by omega, HST2⟩
      case measure => simp [intOf]; omega
    · obtain rfl : k = N := by omega
      have HSE : Hid (S = sumB LL) := by
        have h9 := HSS.out
        rw [List.take_of_length_le (by rw [← HNN.out]; exact Nat.le_refl _)] at h9
        exact h9
      have FS : Hid (S % 253 = ((u8 (S % 253)).toNat : Int)) := (u8_val (by omega) (by omega)).symm
      have hltz : ¬ (k : Int) < k := by omega
      go_wp2_with fail
      go_ret
      exact ⟨by rw [← HSE.out, ← FS.out]; rfl, rfl⟩

end Vd
end Go.Proofs.YtcmoajlcmeimiaaDoor
