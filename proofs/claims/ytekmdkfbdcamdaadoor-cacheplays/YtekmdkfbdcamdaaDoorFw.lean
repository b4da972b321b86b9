/- Slices of the reference's Kept (a place, a text) that begin anywhere in their block (drawn from Ef's frames and Eh). -/
import Derived.Test.YtekmdkfbdcamdaaDoorFc
import Derived.Deep.Upon
namespace Go.Proofs.YtekmdkfbdcamdaaDoor
namespace Fw
set_option linter.unusedVariables false
set_option linter.unusedSimpArgs false
open Go.ChangeShapes Go.WideShapes Go.ChangeAt Go.RowKit Ka Kb Ef
open Fb (Kp)

def kz : Kp := (Fb.e0, Fb.e0)
def cells2 (x : Kp) : List Value := [.string x.1, .string x.2]
theorem infoK : (Tryd.prog.info? 42).map (fun i => (i.zero, i.size, i.bytes)) = some (some (.agg #[.string ⟨#[]⟩, .string ⟨#[]⟩]), 2, 32) := by kernel_rfl
def flatK (l : List Kp) : List Value := l.flatMap cells2
theorem flatK_append (a b : List Kp) : flatK (a ++ b) = flatK a ++ flatK b := by unfold flatK; rw [List.flatMap_append]
theorem flatK_length : ∀ l : List Kp, (flatK l).length = l.length * 2
  | [] => rfl
  | x :: l => by
    have e : flatK (x :: l) = cells2 x ++ flatK l := rfl
    rw [e, List.length_append, flatK_length l, List.length_cons]
    show 2 + l.length * 2 = _
    omega
theorem flatK_at : ∀ (l : List Kp) (j : Nat), j < l.length → ∀ i u, (cells2 (l.getD j kz))[i]? = some u → (flatK l)[j * 2 + i]? = some u
  | x :: l, 0, _, i, u, hu => by
    have e : flatK (x :: l) = cells2 x ++ flatK l := rfl
    have hi : i < (cells2 x).length := (List.getElem?_eq_some_iff.1 hu).1
    rw [e, Nat.zero_mul, Nat.zero_add, List.getElem?_append_left hi]; exact hu
  | x :: l, j + 1, hj, i, u, hu => by
    have e : flatK (x :: l) = cells2 x ++ flatK l := rfl
    have h3 : (cells2 x).length = 2 := rfl
    rw [e, List.getElem?_append_right (by rw [h3]; omega), h3, show (j + 1) * 2 + i - 2 = j * 2 + i by omega]
    exact flatK_at l j (by simpa using hj) i u hu
def KAt (w : World) (b o j : Nat) (x : Kp) : Prop := w.cell? ⟨b, o + j * 2, none⟩ = some (.string x.1) ∧ w.cell? ⟨b, o + j * 2 + 1, none⟩ = some (.string x.2)
theorem KAt.stay {w w' : World} {b o j : Nat} {x : Kp} (h : KAt w b o j x) (hs : w'.heap[b]? = w.heap[b]?) : KAt w' b o j x := ⟨(cell_stay hs).trans h.1, (cell_stay hs).trans h.2⟩
theorem kept_one (l : List Kp) : ∀ u ∈ flatK l, u.oneCell' = true := by
  intro u hu
  unfold flatK at hu
  obtain ⟨y, hy, hu⟩ := List.mem_flatMap.1 hu
  simp only [cells2, List.mem_cons, List.not_mem_nil, or_false] at hu
  rcases hu with rfl | rfl <;> rfl
/- texts kept l; the block that is written by an append is b (where there is room) -/
structure UndB (B : Nat) (w : World) (ao : Option Addr) (b off cap : Nat) (l : List Kp) : Prop where
  came : Came w 2 ao b off l.length cap (flatK l)
  low : 0 < cap → B ≤ b
  max : cap ≤ maxLen
def Und (B : Nat) (w : World) (v : Value) (l : List Kp) (U : Nat → Prop) : Prop := ∃ ao b off cap, v = .slice ao l.length cap ∧ UndB B w ao b off cap l ∧ ∀ g, U g ↔ (0 < cap ∧ g = b)
theorem Und.nil (B : Nat) (w : World) : Und B w (.slice none 0 0) [] (fun _ => False) :=
  ⟨none, 0, 0, 0, rfl, ⟨⟨Nat.le_refl _, fun h => absurd h (by omega), fun h => absurd h (by omega), rfl, fun j u h => by simp [flatK] at h, fun j hj => by simp at hj⟩, fun h => absurd h (by omega), Nat.zero_le _⟩, fun g => ⟨fun h => h.elim, fun h => absurd h.1 (by omega)⟩⟩
theorem came_stay {w w' : World} {ao : Option Addr} {b off len cap : Nat} {olds : List Value} (h : Came w 2 ao b off len cap olds) (hs : 0 < cap → w'.heap[b]? = w.heap[b]?) (hz : w.heap.size ≤ w'.heap.size) : Came w' 2 ao b off len cap olds := by
  refine ⟨h.le, h.addr, fun hc => Nat.lt_of_lt_of_le (h.lt hc) hz, h.oldsLen, fun j u hu => ?_, fun j hj => ?_⟩
  · have hc : 0 < cap := by
      have h1 := h.oldsLen
      have h2 := (List.getElem?_eq_some_iff.1 hu).1
      have h3 := h.le
      omega
    exact (cell_stay (hs hc)).trans (h.olds j u hu)
  · have hc : 0 < cap := by omega
    obtain ⟨h1, h2⟩ := h.spare j hj
    exact ⟨by rw [cell_stay (hs hc)]; exact h1, by rw [World.frozen?_of_block (hs hc)]; exact h2⟩
theorem Und.stay {B : Nat} {w w' : World} {v : Value} {l : List Kp} {U : Nat → Prop} (h : Und B w v l U) (hs : Stay U w w') (hz : w.heap.size ≤ w'.heap.size) : Und B w' v l U := by
  obtain ⟨ao, b, off, cap, h1, h2, h3⟩ := h
  exact ⟨ao, b, off, cap, h1, ⟨came_stay h2.came (fun hc => hs b ((h3 b).2 ⟨hc, rfl⟩)) hz, h2.low, h2.max⟩, h3⟩
theorem Und.lt {B : Nat} {w : World} {v : Value} {l : List Kp} {U : Nat → Prop} (h : Und B w v l U) : ∀ g, U g → B ≤ g ∧ g < w.heap.size := by
  obtain ⟨ao, b, off, cap, h1, h2, h3⟩ := h
  intro g hg
  obtain ⟨e1, e2⟩ := (h3 g).1 hg
  rw [e2]
  exact ⟨h2.low e1, h2.came.lt e1⟩
theorem Und.below {B : Nat} {w w' : World} {v : Value} {l : List Kp} {U : Nat → Prop} (h : Und B w v l U) (hb : Below w.heap.size w w') : Und B w' v l U := h.stay (fun g hg => hb.block g (h.lt g hg).2) hb.size
theorem Und.chg {B : Nat} {w w' : World} {v : Value} {l : List Kp} {U H : Nat → Prop} (h : Und B w v l U) (hc : Chg H w w') (hd : ∀ g, U g → ¬ H g) : Und B w' v l U := h.stay (hc.stay fun g hg => ⟨(h.lt g hg).2, hd g hg⟩) hc.size
/- its j-th one -/
theorem UndB.at {B : Nat} {w : World} {ao : Option Addr} {b off cap : Nat} {l : List Kp} (h : UndB B w ao b off cap l) {j : Nat} (hj : j < l.length) : KAt w b off j (l.getD j kz) := by
  have key : ∀ i u, (cells2 (l.getD j kz))[i]? = some u → w.cell? ⟨b, off + j * 2 + i, none⟩ = some u := by
    intro i u hu
    have := h.came.olds (j * 2 + i) u (flatK_at l j hj i u hu)
    rw [show off + j * 2 + i = off + (j * 2 + i) by omega]; exact this
  exact ⟨key 0 _ rfl, key 1 _ rfl⟩
/- without its first one -/
theorem UndB.tail {B : Nat} {w : World} {ao : Option Addr} {b off cap : Nat} {x : Kp} {l : List Kp} (h : UndB B w ao b off cap (x :: l)) (hc : 1 < cap) : UndB B w (some ⟨b, off + 2, none⟩) b (off + 2) (cap - 1) l := by
  have hle := h.came.le
  have e : flatK (x :: l) = cells2 x ++ flatK l := rfl
  simp only [List.length_cons] at hle
  refine ⟨⟨by omega, fun _ => rfl, fun _ => h.came.lt (by omega), flatK_length l, fun j u hu => ?_, fun j hj => ?_⟩, fun _ => h.low (by omega), by have := h.max; omega⟩
  · have := h.came.olds (2 + j) u (by rw [e, List.getElem?_append_right (by show 2 ≤ _; omega)]; show (flatK l)[2 + j - 2]? = _; rw [show 2 + j - 2 = j by omega]; exact hu)
    rw [show off + 2 + j = off + (2 + j) by omega]; exact this
  · have := h.came.spare j (by simp only [List.length_cons]; omega)
    simp only [List.length_cons] at this
    rw [show off + 2 + l.length * 2 + j = off + (l.length + 1) * 2 + j by omega]; exact this
theorem UndB.empty {B : Nat} {w : World} (p : Option Addr) : UndB B w p 0 0 0 [] := ⟨⟨Nat.le_refl _, fun h => absurd h (by omega), fun h => absurd h (by omega), rfl, fun j u h => by simp [flatK] at h, fun j hj => by simp at hj⟩, fun h => absurd h (by omega), Nat.zero_le _⟩

theorem Und.zero (B : Nat) (w : World) (p : Option Addr) : Und B w (.slice p 0 0) [] (fun _ => False) := ⟨p, 0, 0, 0, rfl, UndB.empty p, fun g => ⟨fun h => h.elim, fun h => absurd h.1 (by omega)⟩⟩
theorem Und.tailed {B : Nat} {w : World} {ao : Option Addr} {b off cap n : Nat} {x : Kp} {l : List Kp} (h : UndB B w ao b off cap (x :: l)) (hc : 1 < cap) (hl : l.length + 1 = n) : Und B w (.slice (some ⟨b, off + 2, none⟩) (n - 1) (cap - 1)) l (fun g => 0 < cap - 1 ∧ g = b) := ⟨some ⟨b, off + 2, none⟩, b, off + 2, cap - 1, by rw [← hl]; simp, h.tail hc, fun g => Iff.rfl⟩

theorem tape_setCells : ∀ (vs : List Value) (b o : Nat) (w : World), (w.setCells b o vs).tape = w.tape ∧ (w.setCells b o vs).heap.size = w.heap.size
  | [], _, _, _ => ⟨rfl, rfl⟩
  | v :: r, b, o, w => by
    obtain ⟨h1, h2⟩ := tape_setCells r b (o + 1) (w.setCell ⟨b, o, none⟩ v)
    exact ⟨h1.trans rfl, h2.trans (set_size _ _ _)⟩
theorem firstOld {w : World} {B : Nat} {ao : Option Addr} {b off cap : Nat} {l : List Kp} (h : UndB B w ao b off cap l) : (Builtin.firstCells 2 l.length (.slice ao l.length cap)).run Tryd.prog w.drew = .ok (flatK l).toArray w.drew := by
  rcases Nat.eq_zero_or_pos cap with h0 | hc
  · have hl : l = [] := List.eq_nil_of_length_eq_zero (by have := h.came.le; omega)
    subst hl h0
    cases ao with
    | none => exact run_firstCells_none w.drew 2 0 0 0
    | some a => exact run_firstCells_some w.drew 2 0 a 0 0 [] (by simp) (by intro _ _ h'; simp at h')
  · rw [h.came.addr hc]
    refine run_firstCells_some w.drew 2 l.length ⟨b, off, none⟩ l.length cap (flatK l) (flatK_length l) (fun j u hu => ?_)
    rw [Addr.add_lit]
    exact h.came.olds j u hu
/- some are appended: what comes out, and which blocks may have changed -/
theorem app_run {w : World} {B : Nat} {v : Value} {l : List Kp} {U : Nat → Prop} (h : Und B w v l U) (hB : B ≤ w.heap.size) (x : Value) (n : Nat) (k : List Kp) (hk : k.length = n) (hs : Src Tryd.prog 2 37 x n (flatK k) w) (hn : l.length + n ≤ 1000000) (ty : TypeId) :
    ∃ v' w' U', (Builtin.append_ #[37, 37] ty #[v, x]).run Tryd.prog w = .ok v' w' ∧ Und B w' v' (l ++ k) U' ∧ Chg U w w' ∧ (∀ g, U' g → U g ∨ w.heap.size ≤ g) ∧ (∃ p n c, v' = .slice p n c) := by
  obtain ⟨ao, b, off, cap, rfl, hu, hU⟩ := h
  obtain ⟨i0, hi, hz0, hz1, hz2⟩ := info_parts infoK
  have hle := hu.came.le
  by_cases hroom : l.length + n ≤ cap
  · rcases Nat.eq_zero_or_pos cap with h0 | hc
    · subst h0
      obtain rfl : n = 0 := by omega
      have hk0 : k = [] := List.eq_nil_of_length_eq_zero hk
      subst hk0
      refine ⟨_, _, U, run_append_nothing (P := Tryd.prog) w _ _ ty 42 i0 Tryd.underlying37 hi ao l.length 0 hle x (by rw [hz1]; exact hs), ⟨ao, b, off, 0, by simp, by rw [List.append_nil]; exact hu, hU⟩, Chg.refl _ _, fun g hg => Or.inl hg, ⟨_, _, _, rfl⟩⟩
    · have hao := hu.came.addr hc
      subst hao
      have hkl : (flatK k).length = n * 2 := by rw [flatK_length, hk]
      have hsome : ∀ j, j < (flatK k).length → (w.cell? ⟨b, off + l.length * 2 + j, none⟩).isSome = true := fun j hj => (hu.came.spare j (by omega)).1
      have hfr : ∀ j, j < (flatK k).length → w.frozen? ⟨b, off + l.length * 2 + j, none⟩ = false := fun j hj => (hu.came.spare j (by omega)).2
      have hrun := run_append_room_src (P := Tryd.prog) w 37 37 ty 42 i0 Tryd.underlying37 hi b off l.length cap x n (flatK k) (by rw [hz1]; exact hs) hroom (by rw [hz1]; exact hsome) (by rw [hz1]; exact hfr)
      rw [hz1] at hrun
      obtain ⟨ht, hsz⟩ := tape_setCells (flatK k) b (off + l.length * 2) w
      refine ⟨_, _, U, hrun, ⟨some ⟨b, off, none⟩, b, off, cap, by rw [List.length_append, hk], ⟨⟨by rw [List.length_append, hk]; exact hroom, fun _ => rfl, fun _ => by rw [hsz]; exact hu.came.lt hc, flatK_length _, fun j u hj => ?_, fun j hj => ?_⟩, hu.low, hu.max⟩, hU⟩, ?_, fun g hg => Or.inl hg, ⟨_, _, _, rfl⟩⟩
      · rw [flatK_append] at hj
        have hll := flatK_length l
        by_cases hjl : j < (flatK l).length
        · rw [List.getElem?_append_left hjl] at hj
          rw [World.cell?_setCells_out b _ _ _ _ (fun _ _ => Or.inl (by show off + j < off + l.length * 2; omega))]
          exact hu.came.olds j u hj
        · rw [List.getElem?_append_right (by omega)] at hj
          have hlt := (List.getElem?_eq_some_iff.1 hj).1
          have h9 := World.cell?_setCells_in b (flatK k) (off + l.length * 2) w hsome (j - (flatK l).length) hlt
          rw [show off + l.length * 2 + (j - (flatK l).length) = off + j by omega] at h9
          rw [h9]
          exact hj ▸ (List.getElem?_eq_getElem hlt).symm
      · rw [List.length_append, hk] at hj ⊢
        have h9 := hu.came.spare (n * 2 + j) (by omega)
        rw [show off + l.length * 2 + (n * 2 + j) = off + (l.length + n) * 2 + j by omega] at h9
        refine ⟨?_, by rw [World.frozen?_setCells]; exact h9.2⟩
        rw [World.cell?_setCells_out b _ _ _ _ (fun _ _ => Or.inr (by show off + l.length * 2 + (flatK k).length ≤ off + (l.length + n) * 2 + j; omega))]
        exact h9.1
      · exact ⟨World.os_setCells _ _ _ _, ht, World.output_setCells _ _ _ _, Nat.le_of_eq hsz.symm, fun g hg hn => World.heap_setCells_other w b _ _ hg (fun e => hn ((hU g).2 ⟨hc, e⟩))⟩
  · have hg : cap < l.length + n := by omega
    have hrun := run_append_grow_src (P := Tryd.prog) w 37 37 ty 42 i0 _ Tryd.underlying37 hi hz0 ao l.length cap (flatK l) (by rw [hz1]; exact firstOld hu) x n (flatK k) (by rw [hz1]; exact hs) hg (by omega) (by rw [hz2]; exact growslice_fits hg (by omega))
    have hge := grownCap_ge w (l.length + n) cap 42
    have hcm := grownCap_le_maxLen w (l.length + n) cap 42 (by unfold maxLen; omega)
    obtain ⟨C, hC⟩ : ∃ C, C = grownCap w (l.length + n) cap 42 := ⟨_, rfl⟩
    rw [← hC] at hrun hge hcm
    obtain ⟨arr, harr⟩ : ∃ arr, arr = (flatK l ++ flatK k).toArray ++ Builtin.zeroCells (Value.agg #[.string ⟨#[]⟩, .string ⟨#[]⟩]).cells (C - (l.length + n)) := ⟨_, rfl⟩
    rw [← harr] at hrun
    have hL : (flatK l ++ flatK k).length = (l.length + n) * 2 := by rw [List.length_append, flatK_length, flatK_length, hk, Nat.add_mul]
    have hasz : arr.size = C * 2 := by
      rw [harr, Array.size_append, List.size_toArray, hL, size_zeroCells]
      show (l.length + n) * 2 + (C - (l.length + n)) * 2 = C * 2
      omega
    have hcell : ∀ j, (w.drew.alloc (.cells arr 42)).cell? ⟨w.heap.size, j, none⟩ = arr[j]? := fun j => World.cell?_alloc_new w.drew _ _ j
    refine ⟨_, _, (fun g => 0 < C ∧ g = w.heap.size), hrun, ⟨some ⟨w.heap.size, 0, none⟩, w.heap.size, 0, C, by rw [List.length_append, hk], ⟨⟨by rw [List.length_append, hk]; exact hge, fun _ => rfl, fun _ => by simp, flatK_length _, fun j u hj => ?_, fun j hj => ?_⟩, fun _ => hB, hcm⟩, fun g => Iff.rfl⟩, ⟨rfl, rfl, rfl, by simp, fun g hg _ => Below.heap_alloc w.drew _ g hg⟩, fun g hg => Or.inr (by rw [hg.2]; exact Nat.le_refl _), ⟨_, _, _, rfl⟩⟩
    · rw [flatK_append] at hj
      have hlt := (List.getElem?_eq_some_iff.1 hj).1
      rw [Nat.zero_add, hcell, harr, Array.getElem?_append_left (by simpa using hlt), List.getElem?_toArray]
      exact hj
    · rw [List.length_append, hk] at hj ⊢
      refine ⟨?_, World.frozen?_alloc_new w.drew _ _ _⟩
      rw [hcell, Array.getElem?_eq_getElem (by rw [hasz]; omega)]; rfl
/- at a plain region's list, and at a step of a region that draws -/
theorem wpList_app {ops : Array Oper} {rest : List Oper} {o : Oper} {a : Act} {Q : Exit → Act → World → Prop} {w : World} (hgd : o.guard = none) (s x : Operand)
    (ho : o.op = .call { callee := .builtin .append, args := #[s, x], argTypes := #[37, 37] }) {B : Nat} {v : Value} {l : List Kp} {U : Nat → Prop} (hv : a.eval s = v) (h : Und B w v l U) (hB : B ≤ w.heap.size) (xv : Value) (hx : a.eval x = xv) (n : Nat) (k : List Kp) (hk : k.length = n) (hs : Src Tryd.prog 2 37 xv n (flatK k) w) (hn : l.length + n ≤ 1000000)
    (hK : ∀ v' w' U', Und B w' v' (l ++ k) U' → Chg U w w' → (∀ g, U' g → U g ∨ w.heap.size ≤ g) → (∃ p n c, v' = .slice p n c) → wpList Tryd.prog ops Q rest (a.put o.dst v') w') : wpList Tryd.prog ops Q (o :: rest) a w := by
  refine wpList_plain hgd fun K hK' => ?_
  obtain ⟨v', w', U', hrun, h1, h2, h3, h4⟩ := app_run h hB xv n k hk hs hn o.type
  unfold Oper.wp
  simp [execOp, ho, resolve, invoke, builtin, hv, hx, hrun, Result.andThen]
  exact hK' _ _ (hK v' w' U' h1 h2 h3 h4)
theorem step_app {ops : Array Oper} {o : Oper} {a : Act} {W : World} {K : Act → World → Prop} {Q : Exit → Act → World → Prop} {E : Prop} (hgd : o.guard = none) (s x : Operand)
    (ho : o.op = .call { callee := .builtin .append, args := #[s, x], argTypes := #[37, 37] }) {B : Nat} {v : Value} {l : List Kp} {U : Nat → Prop} (hv : a.eval s = v) (h : Und B W v l U) (hB : B ≤ W.heap.size) (xv : Value) (hx : a.eval x = xv) (n : Nat) (k : List Kp) (hk : k.length = n) (hs : Src Tryd.prog 2 37 xv n (flatK k) W) (hn : l.length + n ≤ 1000000)
    (hK : ∀ v' w' U', Und B w' v' (l ++ k) U' → Chg U W w' → (∀ g, U' g → U g ∨ W.heap.size ≤ g) → (∃ p n c, v' = .slice p n c) → K (a.put o.dst v') w') :
    if Region.wanted o (yielded ops a.tmps) = true then Oper.wp Tryd.prog o a W K Q else E := by
  have hw : Region.wanted o (yielded ops a.tmps) = true := by simp [Region.wanted, hgd]
  rw [if_pos hw]
  obtain ⟨v', w', U', hrun, h1, h2, h3, h4⟩ := app_run h hB xv n k hk hs hn o.type
  unfold Oper.wp
  simp [execOp, ho, resolve, invoke, builtin, hv, hx, hrun, Result.andThen]
  exact hK v' w' U' h1 h2 h3 h4

end Fw
end Go.Proofs.YtekmdkfbdcamdaaDoor
