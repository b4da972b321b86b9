
import Derived.Test.YtnbnniapllkjlaaGreatDoorJ13
import Derived.Test.YtnbnniapllkjlaaGreatDoorBa
import Derived.MapKept
namespace Go.Proofs.YtnbnniapllkjlaaGreatDoor
namespace Bg
set_option linter.unusedVariables false
set_option linter.unusedSimpArgs false
open Go.ChangeShapes Go.WideShapes Go.ChangeAt Go.RowKit Go.MapKept Cm Ka Kb Na Om Oa Oz Oc Og Oi Hm Ia Ic Ie Im
open Ba (cnt cnt_take cnt_le)
open La (bel bel_drew)
abbrev Ke := ByteArray × Int
abbrev pe (e : MapEntry) : Value × Value := (e.key, e.val)
abbrev pk (x : Ke) : Value × Value := (.string x.1, .int .i64 x.2)
def getI (p : ByteArray) : List Ke → Int
  | [] => 0
  | x :: M => if x.1 = p then x.2 else getI p M
def findI (p : ByteArray) : List Ke → Option (Nat × Int)
  | [] => none
  | x :: M => if x.1 = p then some (0, x.2) else (findI p M).map fun r => (r.1 + 1, r.2)
def updI (p : ByteArray) (v : Int) : List Ke → List Ke
  | [] => [(p, v)]
  | x :: M => if x.1 = p then (p, v) :: M else x :: updI p v M
theorem get_upd (p q : ByteArray) (v : Int) : ∀ M : List Ke, getI q (updI p v M) = if q = p then v else getI q M
  | [] => by
    unfold updI getI
    by_cases h : q = p
    · rw [if_pos h, if_pos h.symm]
    · rw [if_neg h, if_neg (fun e => h e.symm)]; rfl
  | x :: M => by
    have ih := get_upd p q v M
    have e : ∀ (y : Ke) (l : List Ke), getI q (y :: l) = if y.1 = q then y.2 else getI q l := fun _ _ => rfl
    unfold updI
    by_cases h : x.1 = p
    · rw [if_pos h, e, e]
      by_cases h2 : q = p
      · rw [if_pos h2, if_pos h2.symm]
      · rw [if_neg h2, if_neg (fun e => h2 e.symm), if_neg (fun e => h2 (e.symm.trans h))]
    · rw [if_neg h, e, e, ih]
      by_cases h2 : q = p
      · rw [if_pos h2, if_pos h2, if_neg (fun e => h (e.trans h2))]
      · rw [if_neg h2, if_neg h2]
theorem find_get (p : ByteArray) : ∀ M : List Ke, getI p M = ((findI p M).map (·.2)).getD 0
  | [] => rfl
  | x :: M => by
    unfold findI getI
    by_cases h : x.1 = p
    · rw [if_pos h, if_pos h]; rfl
    · rw [if_neg h, if_neg h, find_get p M, Option.map_map]; rfl
theorem upd_none {p : ByteArray} {v : Int} : ∀ {M : List Ke}, findI p M = none → updI p v M = M ++ [(p, v)]
  | [], _ => rfl
  | x :: M, h => by
    unfold findI at h
    unfold updI
    by_cases e : x.1 = p
    · rw [if_pos e] at h; cases h
    · rw [if_neg e] at h
      rw [if_neg e, upd_none (by cases q : findI p M with | none => rfl | some r => rw [q] at h; cases h)]; rfl
theorem upd_some {p : ByteArray} {v : Int} : ∀ {M : List Ke} {i : Nat} {u : Int}, findI p M = some (i, u) → updI p v M = M.set i (p, v) ∧ M[i]? = some (p, u)
  | [], i, u, h => by cases h
  | x :: M, i, u, h => by
    unfold findI at h
    unfold updI
    by_cases e : x.1 = p
    · rw [if_pos e] at h
      injection h with h; injection h with h1 h2; subst h1 h2
      rw [if_pos e]
      exact ⟨rfl, by rw [List.getElem?_cons_zero, ← e]⟩
    · rw [if_neg e] at h
      rw [if_neg e]
      cases q : findI p M with
      | none => rw [q] at h; cases h
      | some r =>
        rw [q] at h
        obtain ⟨j, y⟩ := r
        simp only [Option.map_some, Option.some.injEq, Prod.mk.injEq] at h
        obtain ⟨rfl, rfl⟩ := h
        obtain ⟨i1, i2⟩ := upd_some (v := v) q
        exact ⟨by rw [i1, List.set_cons_succ], by rw [List.getElem?_cons_succ]; exact i2⟩
def MapI (w : World) (B : Nat) (M : List Ke) : Prop := ∃ es clock, w.heap[B]? = some (.map es clock) ∧ es.toList.map pe = M.map pk
theorem MapI.stay {w w' : World} {B : Nat} {M : List Ke} (h : MapI w B M) (hs : w'.heap[B]? = w.heap[B]?) : MapI w' B M := by
  obtain ⟨es, clock, hb, h2⟩ := h
  exact ⟨es, clock, hs.trans hb, h2⟩
theorem MapI.lt {w : World} {B : Nat} {M : List Ke} (h : MapI w B M) : B < w.heap.size := by
  obtain ⟨es, clock, hb, _⟩ := h
  exact (Array.getElem?_eq_some_iff.1 hb).1
theorem MapI.below {w w' : World} {B : Nat} {M : List Ke} (h : MapI w B M) (hb : Below w.heap.size w w') : MapI w' B M := h.stay (hb.block B h.lt)
theorem make_map (w : World) : MapI (w.alloc (.map #[] 0)) w.heap.size [] := ⟨#[], 0, (MapKept.heap_alloc w _).1, rfl⟩
theorem zero_i (w : World) : (zeroValue 3).run Tryz.prog w = .ok (.int .i64 0) w := by kernel_rfl
theorem under_s : Tryz.prog.underlying 9 = some .string := by kernel_rfl
theorem under_m : Tryz.prog.underlying 93 = some (.map 9 3) := by kernel_rfl
theorem check_key (e : Bool) (p : ByteArray) (w : World) : (Instr.checkKey e 10000 9 (.string p)).run Tryz.prog w = .ok () w := run_checkKey under_s (d := .string) (k := .string p) trivial e 9999
theorem find_now (p : ByteArray) : ∀ (M : List Ke) (es : List MapEntry) (i : Nat), es.map pe = M.map pk → Instr.findNow .string (.string p) es i = some ((findI p M).map fun r => (i + r.1, .int .i64 r.2))
  | [], es, i, h => by
    have : es = [] := by simpa using h
    subst this
    rfl
  | x :: M, [], i, h => by simp at h
  | x :: M, e :: es, i, h => by
    simp only [List.map_cons, List.cons.injEq, Prod.mk.injEq] at h
    obtain ⟨⟨h1, h2⟩, h3⟩ := h
    have ih := find_now p M es (i + 1) h3
    unfold Instr.findNow
    rw [h1, h2]
    unfold findI
    show (match some (p == x.1) with | some true => some (some (i, Value.int .i64 x.2)) | some false => Instr.findNow .string (.string p) es (i + 1) | none => none) = _
    by_cases hd : x.1 = p
    · have e1 : (p == x.1) = true := (bytes_beq p x.1).2 hd.symm
      rw [e1, if_pos hd]; rfl
    · have e1 : (p == x.1) = false := by
        cases hq : (p == x.1) with
        | false => rfl
        | true => exact absurd ((bytes_beq p x.1).1 hq).symm hd
      rw [e1, if_neg hd]
      show Instr.findNow .string (.string p) es (i + 1) = _
      rw [ih]
      cases findI p M with
      | none => rfl
      | some r => simp only [Option.map_some]; rw [show i + 1 + r.1 = i + (r.1 + 1) by omega]
theorem find_key (p : ByteArray) (w : World) (M : List Ke) (es : List MapEntry) (h : es.map pe = M.map pk) :
    (Instr.findKey 9 (.string p) es).run Tryz.prog w = .ok ((findI p M).map fun r => (r.1, .int .i64 r.2)) w := by
  have h1 := find_now p M es 0 h
  have h2 := run_findKey (P := Tryz.prog) (w := w) under_s h1
  rw [h2]
  cases findI p M with
  | none => rfl
  | some r => simp
theorem look_up {w : World} {B : Nat} {M : List Ke} (h : MapI w B M) (p : ByteArray) :
    (Instr.lookup 93 (.map (some B)) (.string p) false).run Tryz.prog w = .ok (.int .i64 (getI p M)) w := by
  obtain ⟨es, clock, hb, he⟩ := h
  have hf := find_key p w M es.toList he
  unfold Instr.lookup
  simp only [Sem.run_bind, run_underlying under_m, MapKept.run_getObj_map hb, Result.andThen, Sem.run_pure, check_key, hf]
  rw [find_get]
  cases findI p M with
  | none => simp only [Option.map_none, Sem.run_bind, zero_i, Result.andThen, Sem.run_pure]; rfl
  | some r => rfl
theorem setBlock_grown {w : World} {B : Nat} {o : Obj} (hb : w.heap[B]? = some o) (o' : Obj) : w.grownBy { w with heap := w.heap.setIfInBounds B o' } (some B) := by
  refine ⟨rfl, rfl, rfl, ?_, fun g hg hne => ?_⟩
  · simp
  · exact (MapKept.heap_set hb).2 g (fun e => hne (by rw [e]))
theorem update_run {w : World} {B : Nat} {M : List Ke} (h : MapI w B M) (p : ByteArray) (v : Int) :
    ∃ w', (Instr.mapUpdate 93 (.map (some B)) (.string p) (.int .i64 v)).run Tryz.prog w = .ok () w' ∧ MapI w' B (updI p v M) ∧ w.grownBy w' (some B) := by
  obtain ⟨es, clock, hb, he⟩ := h
  have hf := find_key p w M es.toList he
  cases hq : findI p M with
  | none =>
    rw [hq] at hf
    simp only [Option.map_none] at hf
    unfold Instr.mapUpdate
    simp only [Sem.run_bind, run_underlying under_m, MapKept.run_getObj_map hb, Result.andThen, Sem.run_pure, check_key, hf, MapKept.run_setObj_map _ hb]
    refine ⟨_, rfl, ⟨_, _, (MapKept.heap_set hb).1, ?_⟩, setBlock_grown hb _⟩
    rw [Array.toList_push, List.map_append, he, upd_none hq, List.map_append]; rfl
  | some r =>
    obtain ⟨i, u⟩ := r
    obtain ⟨u1, u2⟩ := upd_some (v := v) hq
    rw [hq] at hf
    simp only [Option.map_some] at hf
    have hie : es.toList[i]?.map pe = some (.string p, .int .i64 u) := by
      rw [← List.getElem?_map, he, List.getElem?_map, u2]; rfl
    obtain ⟨e0, he0, hk0⟩ : ∃ e0, es.toList[i]? = some e0 ∧ e0.key = .string p := by
      cases q : es.toList[i]? with
      | none => rw [q] at hie; cases hie
      | some e0 => rw [q] at hie; simp only [Option.map_some, Option.some.injEq, Prod.mk.injEq] at hie; exact ⟨e0, rfl, hie.1⟩
    have he1 : es[i]? = some e0 := by simpa using he0
    have hks : (((es[i]?).map (·.key)).getD (.string p)) = .string p := by rw [he1]; exact hk0
    have hst : (Instr.keyThatStays (.string p) (.string p)).run Tryz.prog w = .ok (.string p) w := run_keyThatStays (d := .string) (k := .string p) trivial
    unfold Instr.mapUpdate
    simp only [Sem.run_bind, run_underlying under_m, MapKept.run_getObj_map hb, Result.andThen, Sem.run_pure, check_key, hf, hks, hst, MapKept.run_setObj_map _ hb]
    refine ⟨_, rfl, ⟨_, _, (MapKept.heap_set hb).1, ?_⟩, setBlock_grown hb _⟩
    rw [Array.toList_modify, u1]
    apply List.ext_getElem?
    intro k
    rw [List.getElem?_map, List.getElem?_modify, List.getElem?_map]
    have hk := congrArg (fun l => l[k]?) he
    simp only [List.getElem?_map] at hk
    by_cases e : i = k
    · subst e
      have hil : i < M.length := (List.getElem?_eq_some_iff.1 u2).1
      rw [he0, List.getElem?_set_self hil]; simp
    · rw [List.getElem?_set_ne e, ← hk]
      simp [e]
def MapC (w : World) (B : Nat) (l : List Ox) : Prop := ∃ M, MapI w B M ∧ ∀ p, getI p M = (cnt l p : Int)
theorem MapC.below {w w' : World} {B : Nat} {l : List Ox} (h : MapC w B l) (hb : Below w.heap.size w w') : MapC w' B l := by
  obtain ⟨M, h1, h2⟩ := h; exact ⟨M, h1.below hb, h2⟩
theorem MapC.stay {w w' : World} {B : Nat} {l : List Ox} (h : MapC w B l) (hs : w'.heap[B]? = w.heap[B]?) : MapC w' B l := by
  obtain ⟨M, h1, h2⟩ := h; exact ⟨M, h1.stay hs, h2⟩
theorem MapC.lt {w : World} {B : Nat} {l : List Ox} (h : MapC w B l) : B < w.heap.size := by obtain ⟨M, h1, _⟩ := h; exact h1.lt
theorem MapC.noCells {w : World} {B : Nat} {l : List Ox} (h : MapC w B l) {cur : Array Value} {t : TypeId} {f : Nat × Nat} (h2 : w.heap[B]? = some (.cells cur t f)) : False := by
  obtain ⟨M, ⟨es, clock, hb, _⟩, _⟩ := h
  rw [hb] at h2; cases h2
theorem MapC.look {w : World} {B : Nat} {l : List Ox} (h : MapC w B l) (p : ByteArray) : (Instr.lookup 93 (.map (some B)) (.string p) false).run Tryz.prog w = .ok (.int .i64 (cnt l p : Int)) w := by
  obtain ⟨M, h1, h2⟩ := h
  rw [← h2]; exact look_up h1 p
set_option maxRecDepth 100000 in
set_option maxHeartbeats 2000000 in
theorem strikesAt_any (v : Value) (l : List Ox) (w : World) (h : OpsAt w v l) (hn : l.length ≤ 1048576) :
    Calls Tryz.prog 37 #[v] w fun e w' => ∃ B, e = .returned (.map (some B)) ∧ MapC w' B l ∧ w.heap.size ≤ B ∧ Below w.heap.size w w' := by
  obtain ⟨q, c, rfl, hin, _⟩ := h
  obtain ⟨n, hl⟩ : ∃ n, l.length = n := ⟨_, rfl⟩
  rw [hl] at hn ⊢
  have HL : Hid (l.length = n) := hl
  have HI : Hid (OpsIn w q l) := hin
  have hmm := @run_makeMap Tryz.prog
  have HM : Hid (MapC (w.alloc (.map #[] 0)) w.heap.size (l.take 0)) := ⟨[], make_map w, fun p => rfl⟩
  have HB : Hid (Below w.heap.size w (w.alloc (.map #[] 0))) := (Below.refl _ w).alloc (Nat.le_refl _) _
  clear hin hl
  go_enter Tryz.func37, Tryz.ntmps37
  go_wp2_with fail
  go_loopw [5, 9] (fun _ vi wr => ∃ k : Nat, k ≤ n ∧ vi = .int .i64 k ∧ Hid (MapC wr w.heap.size (l.take k)) ∧ Hid (Below w.heap.size w wr)) (fun _ vi _ => n - (intOf vi).toNat)
  case atStart => exact ⟨0, by omega, rfl, HM, HB⟩
  case round =>
    clear HM HB
    obtain ⟨k, hk, rfl, HM, HB⟩ := hrel
    by_cases hlt : k < n
    · have hltz : (k : Int) < n := by omega
      have hkl : k < l.length := by rw [HL.out]; exact hlt
      obtain ⟨bo, oo, rfl, hc⟩ := (HI.out.below HB.out).some (by intro e; rw [e] at hkl; simp at hkl)
      obtain ⟨vs, ⟨e0, e1, e2, e3, e4, e5⟩, hdt⟩ := hc k hkl
      obtain ⟨ps, cs, rfl, _⟩ := hdt
      have HT : Hid (∀ p, cnt (l.take (k + 1)) p = cnt (l.take k) p + (if (l.getD k oz).2.1 = 2 ∧ (l.getD k oz).2.2.1 = p then 1 else 0)) := fun p => cnt_take hkl p
      generalize (l.getD k oz).2.2.2.2.length = ns at e5
      obtain ⟨⟨⟨xw, xn⟩, t, pp, cc, ss⟩, hx⟩ : ∃ x, l.getD k oz = x := ⟨_, rfl⟩
      rw [hx] at e0 e1 e2 e3 e4 HT
      dsimp only at e0 e1 e2 e3 e4 HT
      have HBA : Hid (Below wr.heap.size wr (wr.alloc (.cells #[.int .i64 xw, .int .i64 xn, .int .i64 t, .string pp, .int .i64 cc, .slice ps ns cs] 33))) := (Below.refl _ _).alloc (Nat.le_refl _) _
      obtain ⟨f0, f1, f2, f3, f4, f5⟩ := six_new wr xw xn t pp cc (.slice ps ns cs) 33
      clear hc hx hkl
      by_cases ht : t = 2
      · subst ht
        obtain ⟨M, m1, m2⟩ := HM.out
        have hcl : cnt (l.take k) pp ≤ 1048576 := by have := cnt_le (l.take k) pp; rw [List.length_take] at this; omega
        have lk := look_up (m1.below HBA.out) pp
        rw [m2] at lk
        have hwr : IntKind.i64.wrap ((cnt (l.take k) pp : Int) + 1) = (cnt (l.take k) pp : Int) + 1 := by rw [IntKind.wrap_i64]; omega
        obtain ⟨w2, hup, hm2, hg2⟩ := update_run (m1.below HBA.out) pp ((cnt (l.take k) pp : Int) + 1)
        have HM2 : Hid (MapC w2 w.heap.size (l.take (k + 1))) := ⟨_, hm2, fun p => by
          rw [get_upd, HT.out p, m2]
          by_cases e : p = pp
          · rw [if_pos e, if_pos ⟨rfl, e.symm⟩, e]; rfl
          · rw [if_neg e, if_neg (fun h => e h.2.symm)]; rfl⟩
        have HB2 : Hid (Below w.heap.size w w2) := (bel HB.out HBA.out).grown hg2 (bel HB.out HBA.out).size (fun j hj => by injection hj with hj; omega)
        generalize cnt (l.take k) pp = C at lk hwr hup hcl
        clear HM HT hm2 hg2 m1 m2
        go_wp2_with fail
        go_roundw
        case rel => exact ⟨k + 1, by omega, by go_num, HM2, HB2⟩
        case measure => simp [intOf]; omega
      · have htb : (t == 2) = false := by simpa using ht
        have HM2 : Hid (MapC wr w.heap.size (l.take (k + 1))) := by
          obtain ⟨M, m1, m2⟩ := HM.out
          exact ⟨M, m1, fun p => by rw [HT.out p, m2, if_neg (fun h => ht h.1)]; rfl⟩
        have HM3 : Hid (MapC (wr.alloc (.cells #[.int .i64 xw, .int .i64 xn, .int .i64 t, .string pp, .int .i64 cc, .slice ps ns cs] 33)) w.heap.size (l.take (k + 1))) := HM2.out.below HBA.out
        have HB3 : Hid (Below w.heap.size w (wr.alloc (.cells #[.int .i64 xw, .int .i64 xn, .int .i64 t, .string pp, .int .i64 cc, .slice ps ns cs] 33))) := bel HB.out HBA.out
        clear HM HT HM2
        go_wp2_with fail
        go_roundw
        case rel => exact ⟨k + 1, by omega, by go_num, HM3, HB3⟩
        case measure => simp [intOf]; omega
    · obtain rfl : n = k := by omega
      have hltz : ¬ (n : Int) < n := by omega
      have HE : Hid (l.take n = l) := List.take_of_length_le (by rw [HL.out]; exact Nat.le_refl _)
      go_wp2_with fail
      go_ret
      exact ⟨_, rfl, by have := HM.out; rw [HE.out] at this; exact this, Nat.le_refl _, HB.out⟩
end Bg
end Go.Proofs.YtnbnniapllkjlaaGreatDoor
