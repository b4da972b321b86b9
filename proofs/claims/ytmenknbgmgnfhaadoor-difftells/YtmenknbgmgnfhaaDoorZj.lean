/- Package diff: Apply. -/
import Derived.Test.YtmenknbgmgnfhaaDoorZi
import Derived.Lib.AppendStr
namespace Go.Proofs.YtmenknbgmgnfhaaDoor
namespace Zj
set_option linter.unusedVariables false
set_option linter.unusedSimpArgs false
open Go.ChangeShapes Go.WideShapes Go.ChangeAt Go.RowKit Ka Kb Zb Zc Zd Ze Zf Zg Zh Zi

/- rows of bytes (drawn from Oc) -/
def bc (l : List UInt8) : List Value := l.map fun x => Value.int .u8 (x.toNat : Int)
theorem bc_length (l : List UInt8) : (bc l).length = l.length := by simp [bc]
theorem bc_append (a b : List UInt8) : bc (a ++ b) = bc a ++ bc b := by simp [bc]
theorem bc_at {l : List UInt8} {j : Nat} (hj : j < l.length) : (bc l)[j]? = some (.int .u8 ((l.getD j 0).toNat : Int)) := by
  rw [bc, List.getElem?_map, List.getElem?_eq_getElem hj, List.getD_eq_getElem?_getD, List.getElem?_eq_getElem hj]; rfl
theorem bc_str (s : ByteArray) : Lib.strCells s = bc s.toList := by
  rw [ByteArray.toList_eq]; rfl
def Row (w : World) (B : Nat) (v : Value) (l : List UInt8) : Prop := w.ownsRow B 5 1 v l.length (bc l)
theorem Row.reads {w : World} {B : Nat} {v : Value} {l : List UInt8} (h : Row w B v l) (hv : v ≠ .slice none 0 0) : (convert 49 9 v).run Tryd.prog w = .ok (.string ⟨l.toArray⟩) w := by
  have hh := h
  obtain ⟨_, h2⟩ := h
  rcases h2 with ⟨e, e0⟩ | ⟨g, cap, cur, rfl, hg, _⟩
  · exact absurd e hv
  · refine run_convert_bytes_back (P := Tryd.prog) w 49 9 5 ⟨g, 0, none⟩ cap l Tryd.underlying49 Tryd.underlying5 Tryd.underlying9 ?_
    intro j hj
    have := World.ownsRow.cells hh (g := g) rfl j _ (bc_at hj)
    rw [this, List.getD_eq_getElem?_getD, List.getElem?_eq_getElem hj]; rfl
/- what Apply answers -/
def bs (l : List UInt8) : ByteArray := ⟨l.toArray⟩
theorem bs_list (l : List UInt8) : (bs l).toList = l := toList_mk l
theorem bs_back (s : ByteArray) : bs s.toList = s := mk_eq (bs_list _)
def appE (a : List UInt8) (l : List Ed) : Int := if 200 < a.length ∨ 200 < l.length then 4 else match run a l with
  | none => 1
  | some t => if 200 < t.length then 4 else 0
def appR (a : List UInt8) (l : List Ed) : List UInt8 := if appE a l = 0 then (run a l).getD [] else []
def flat (P : List ByteArray) : List UInt8 := P.flatMap ByteArray.toList
theorem flat_append (P Q : List ByteArray) : flat (P ++ Q) = flat P ++ flat Q := by unfold flat; rw [List.flatMap_append]
theorem flat_one (s : ByteArray) : flat [s] = s.toList := by simp [flat]
theorem flat_le (P : List ByteArray) (k : Nat) : (flat (P.take k)).length ≤ (flat P).length := by
  have h := flat_append (P.take k) (P.drop k)
  rw [List.take_append_drop] at h
  rw [h, List.length_append]; omega
theorem flat_take {P : List ByteArray} {k : Nat} (h : k < P.length) : flat (P.take (k + 1)) = flat (P.take k) ++ (P.getD k e0).toList := by
  rw [List.take_succ_eq_append_getElem h, flat_append, flat_one, List.getD_eq_getElem?_getD, List.getElem?_eq_getElem h]; rfl
theorem kind_off {w : World} {base z n base' z' n' : Nat} {t s : TypeId} {v u : Value} {xs ys : List Value} (h : w.ownsRow base t z v n xs) (h' : w.ownsRow base' s z' u n' ys) (ht : t ≠ s) : ∀ g, v.ownBlock = some g → u.ownBlock ≠ some g := fun g hg e => by
  obtain ⟨_, cur, hc⟩ := own_lt h g hg
  obtain ⟨_, cur', hc'⟩ := own_lt h' g e
  rw [hc] at hc'
  injection hc' with hc'
  injection hc' with _ hc' _
  exact ht hc'
structure Ap (a : List UInt8) (l : List Fr) (k : Nat) (F : ByteArray) (P : List ByteArray) (n : Nat) : Prop where
  eq : run a (eds l) = (run F.toList (eds (l.drop k))).map fun t => flat P ++ t
  long : n = (flat P).length + F.size
  len : P.length = 2 * k
  sz : F.size ≤ 200
  nb : n ≤ 200 + k * 140737488355328
theorem Ap.start {a : ByteArray} {l : List Fr} (ha : a.size ≤ 200) : Ap a.toList l 0 a [] a.size :=
  ⟨by simp [flat], by simp [flat], rfl, ha, by omega⟩
theorem eds_at {l : List Fr} {k : Nat} (h : k < l.length) : eds (l.drop k) = ed (l.getD k fz) :: eds (l.drop (k + 1)) := by
  rw [List.drop_eq_getElem_cons h, List.getD_eq_getElem?_getD, List.getElem?_eq_getElem h]; rfl
theorem Ap.bad {a : List UInt8} {l : List Fr} {k : Nat} {F : ByteArray} {P : List ByteArray} {n : Nat} (h : Ap a l k F P n) (hk : k < l.length) (hb : bad F.toList (ed (l.getD k fz))) : run a (eds l) = none := by
  rw [h.eq, eds_at hk, run_bad hb]; rfl
theorem Ap.next {a : List UInt8} {l : List Fr} {k : Nat} {F : ByteArray} {P : List ByteArray} {n : Nat} (h : Ap a l k F P n) (hk : k < l.length) {kk tt : Nat} {d : ByteArray} (hx : l.getD k fz = ((kk : Int), (tt : Int), d)) (hs : kk + tt ≤ F.size) (hd : d.size ≤ 140737488355328) :
    Ap a l (k + 1) (F.extract (kk + tt) F.size) (P ++ [F.extract 0 kk, d]) (n - tt + d.size) ∧ tt ≤ n := by
  have hnb : ¬ Zc.bad F.toList (ed (l.getD k fz)) := by
    rw [hx]; unfold Zc.bad ed; simp only [Kb.len_eq]; omega
  have hF := h.sz
  have hfl : flat (P ++ [F.extract 0 kk, d]) = flat P ++ (F.toList.take kk ++ d.toList) := by
    rw [flat_append]
    congr 1
    simp [flat, list_extract]
  have hlong := h.long
  have hnn := h.nb
  have hll := h.len
  refine ⟨⟨?_, ?_, by simp; omega, by rw [size_extract _ _ _ (Nat.le_refl _)]; omega, by rw [Nat.add_mul]; omega⟩, by omega⟩
  · rw [h.eq, eds_at hk, run_ok hnb, hfl, list_rest]
    have hr : rest F.toList (ed (l.getD k fz)) = F.toList.drop (kk + tt) := by rw [hx]; rfl
    rw [hr, Option.map_map]
    congr 1
    funext t
    rw [hx]
    simp [ed]
  · rw [hfl, size_extract _ _ _ (Nat.le_refl _), List.length_append, List.length_append, List.length_take, Kb.len_eq, Kb.len_eq]
    omega
theorem Ap.done {a : List UInt8} {l : List Fr} {k : Nat} {F : ByteArray} {P : List ByteArray} {n : Nat} (h : Ap a l k F P n) (hk : l.length ≤ k) : run a (eds l) = some (flat (P ++ [F])) ∧ (flat (P ++ [F])).length = n := by
  refine ⟨?_, by rw [flat_append, flat_one, List.length_append, Kb.len_eq]; exact h.long.symm⟩
  rw [h.eq, List.drop_eq_nil_of_le hk, flat_append, flat_one]; rfl

set_option maxRecDepth 100000 in
set_option maxHeartbeats 4000000 in
theorem apply_any (a : ByteArray) (R : Nat → Prop) (v : Value) (l : List Fr) (w : World) (h : FrsJ R w v l) (ha : a.size ≤ maxLen) (hz : ∀ x ∈ l, x.2.2.size ≤ 140737488355328) :
    Calls Tryd.prog 9 #[.string a, v] w fun e w' => e = .returned (.tuple #[.string (bs (appR a.toList (eds l))), errV (appE a.toList (eds l))]) ∧ Hid (Below w.heap.size w w') := by
  obtain ⟨p, c, rfl, hk, hc1, hc2, _⟩ := h
  obtain ⟨n, hl⟩ : ∃ n, l.length = n := ⟨_, rfl⟩
  rw [hl] at hc1 ⊢
  have HL : Hid (l.length = n) := hl
  have HZ : Hid (∀ x ∈ l, x.2.2.size ≤ 140737488355328) := hz
  have HK : Hid (FrsK R w p l) := hk
  have hel : (eds l).length = n := by rw [eds, List.length_map]; exact hl
  unfold maxLen at ha hc2
  by_cases hfull : 200 < a.size ∨ 200 < n
  · have HE : Hid (appE a.toList (eds l) = 4) := by rw [Hid, appE, if_pos (by rw [Kb.len_eq, hel]; exact hfull)]
    have HA : Hid (appR a.toList (eds l) = []) := by rw [Hid, appR, HE.out]; rfl
    rw [HE.out, HA.out]
    clear hl hz hk hel HK HZ HL HE HA
    by_cases h1 : 200 < a.size
    · have z1 : (200 : Int) < (a.size : Int) := by omega
      go_enter Tryd.func9, Tryd.ntmps9
      go_wp2_with fail
      go_ret2
      exact ⟨rfl, Below.refl _ _⟩
    · have z1 : ¬ (200 : Int) < (a.size : Int) := by omega
      have z2 : (200 : Int) < (n : Int) := by omega
      go_enter Tryd.func9, Tryd.ntmps9
      go_wp2_with fail
      go_ret2
      exact ⟨rfl, Below.refl _ _⟩
  · have ha2 : a.size ≤ 200 := by omega
    have hn2 : n ≤ 200 := by omega
    have HEN : Hid (run a.toList (eds l) = none → appE a.toList (eds l) = 1 ∧ appR a.toList (eds l) = []) := by
      intro e
      have e1 : appE a.toList (eds l) = 1 := by rw [appE, if_neg (by rw [Kb.len_eq, hel]; exact hfull), e]
      exact ⟨e1, by rw [appR, e1]; rfl⟩
    have HES : Hid (∀ t, run a.toList (eds l) = some t → appE a.toList (eds l) = (if 200 < t.length then 4 else 0) ∧ appR a.toList (eds l) = (if 200 < t.length then [] else t)) := by
      intro t e
      have e1 : appE a.toList (eds l) = (if 200 < t.length then 4 else 0) := by rw [appE, if_neg (by rw [Kb.len_eq, hel]; exact hfull), e]
      refine ⟨e1, ?_⟩
      rw [appR, e1, e]
      by_cases ht : 200 < t.length
      · rw [if_pos ht, if_pos ht]; rfl
      · rw [if_neg ht, if_neg ht]; rfl
    have z1 : ¬ (200 : Int) < (a.size : Int) := by omega
    have z2 : ¬ (200 : Int) < (n : Int) := by omega
    obtain ⟨i0, hi0, hz0, hz1, hz2⟩ := info_parts infoS
    obtain ⟨i5, hi5, hy0, hy1, hy2⟩ := info_parts info5
    obtain ⟨EE, hEE⟩ : ∃ x, x = appE a.toList (eds l) := ⟨_, rfl⟩
    obtain ⟨RR, hRR⟩ : ∃ x, x = appR a.toList (eds l) := ⟨_, rfl⟩
    rw [← hEE, ← hRR]
    rw [← hEE, ← hRR] at HEN HES
    clear hl hz hk hel hfull ha hEE hRR
    go_enter Tryd.func9, Tryd.ntmps9
    go_wp2_with fail
    go_loopw [6, 7, 8, 10, 11, 12, 13, 14, 32] (fun s6 s7 s8 _ _ _ _ _ s32 wr => ∃ (k m cp L : Nat) (q : Option Addr) (F : ByteArray) (P : List ByteArray), k ≤ n ∧ s32 = .int .i64 k ∧ s6 = .slice q m cp ∧ s7 = .string F ∧ s8 = .int .i64 L ∧ Hid (m = P.length) ∧ Hid (RowT w.heap.size wr (.slice q m cp) P) ∧ Hid (Ap a.toList l k F P L) ∧ Hid (Below w.heap.size w wr)) (fun _ _ _ _ _ _ _ _ s32 _ => n - (intOf s32).toNat)
    case atStart => exact ⟨0, 0, 0, a.size, none, a, [], Nat.zero_le _, rfl, rfl, rfl, rfl, rfl, World.ownsRow_nil _ _ _ _, Ap.start ha2, Below.refl _ _⟩
    case round =>
      obtain ⟨k, m, cp, L, q, F, P, hkn, rfl, rfl, rfl, rfl, HM, HR, HA, HB⟩ := hrel
      have hL1 : L ≤ 28147497671065800 := by have := HA.out.nb; omega
      have hFs : F.size ≤ 200 := HA.out.sz
      have hm2 : m ≤ 400 := by rw [HM.out, HA.out.len]; omega
      by_cases hlt : k < n
      · have hltz : (k : Int) < n := by omega
        obtain ⟨b, o, rfl, _, hc⟩ := HK.out.some (by intro e; have := HL.out; rw [e] at this; simp at this; omega)
        obtain ⟨e1, e2, e3⟩ := hc k (by rw [HL.out]; exact hlt)
        have d1 := keep_cell HB.out e1
        have d2 := keep_cell HB.out e2
        have d3 := keep_cell HB.out e3
        have hsz := HZ.out _ (getD_mem (l := l) (k := k) (by rw [HL.out]; exact hlt))
        have hlt2 : k < l.length := by rw [HL.out]; exact hlt
        obtain ⟨x, hx⟩ : ∃ x, l.getD k fz = x := ⟨_, rfl⟩
        rw [hx] at d1 d2 d3 hsz
        obtain ⟨kk, tt, dd⟩ := x
        dsimp only at d1 d2 d3 hsz
        clear e1 e2 e3 hc
        have hB0 : Below w.heap.size w (wr.alloc (.cells #[.int .i64 kk, .int .i64 tt, .string dd] 43)) := HB.out.alloc (HB.out.size) _
        have hA0 := heap_alloc_new wr (.cells #[.int .i64 kk, .int .i64 tt, .string dd] 43)
        have hR0 : RowT w.heap.size (wr.alloc (.cells #[.int .i64 kk, .int .i64 tt, .string dd] 43)) (.slice q m cp) P := World.ownsRow.alloc HR.out _
        by_cases hbad : Zc.bad F.toList (ed (kk, tt, dd))
        · have HE : Hid (EE = 1 ∧ RR = []) := HEN.out (HA.out.bad hlt2 (by rw [hx]; exact hbad))
          have CC : Hid (∀ W, Calls Tryd.prog 17 #[.string F, .agg #[.int .i64 kk, .int .i64 tt, .string dd]] W fun e w' => e = .returned (.tuple #[.string ⟨#[]⟩, .string ⟨#[]⟩, .string ⟨#[]⟩, .iface 36 (.int .i64 1)]) ∧ Below W.heap.size W w') := fun W => cut_no F (kk, tt, dd) W (by omega) hbad
          clear hx hlt2 hbad hR0
          go_upto_region 8 with fail
          generalize wr.alloc (.cells #[.int .i64 kk, .int .i64 tt, .string dd] 43) = w0 at hB0 hA0 ⊢
          have HB0 : Hid (Below w.heap.size w w0) := hB0
          have y0 := blk_cell hA0 (i := 0) (u := .int .i64 kk) rfl
          have y1 := blk_cell hA0 (i := 1) (u := .int .i64 tt) rfl
          have y2 := blk_cell hA0 (i := 2) (u := .string dd) rfl
          clear hB0 hA0
          go_wp2_with fail
          refine (CC.out w0).mono ?_
          rintro e w3 ⟨rfl, hb3⟩
          have HB3 : Hid (Below w.heap.size w w3) := bel HB0.out hb3
          clear hb3 CC
          go_wp2_with fail
          go_ret2
          exact ⟨by rw [HE.out.1, HE.out.2]; rfl, HB3.out⟩
        · obtain ⟨k0, t0, hk0, ht0, hkt⟩ := nb hbad
          have hk1 : kk = (k0 : Int) := hk0
          have ht1 : tt = (t0 : Int) := ht0
          subst hk1 ht1
          rw [Kb.len_eq] at hkt
          have HAN := HA.out.next hlt2 hx hkt hsz
          have htL : t0 ≤ L := HAN.2
          have HA2 : Hid (Ap a.toList l (k + 1) (F.extract (k0 + t0) F.size) (P ++ [F.extract 0 k0, dd]) (L - t0 + dd.size)) := HAN.1
          have CC : Hid (∀ W, Calls Tryd.prog 17 #[.string F, .agg #[.int .i64 k0, .int .i64 t0, .string dd]] W fun e w' => e = .returned (.tuple #[.string (F.extract 0 k0), .string (F.extract k0 (k0 + t0)), .string (F.extract (k0 + t0) F.size), .nilIface]) ∧ Below W.heap.size W w') := fun W => cut_yes F dd k0 t0 W (by omega) hkt
          obtain ⟨X, hX⟩ : ∃ X, X = F.extract 0 k0 := ⟨_, rfl⟩
          obtain ⟨Y, hY⟩ : ∃ Y, Y = F.extract k0 (k0 + t0) := ⟨_, rfl⟩
          obtain ⟨Z, hZ⟩ : ∃ Z, Z = F.extract (k0 + t0) F.size := ⟨_, rfl⟩
          have hYs : Y.size = t0 := by rw [hY, size_extract _ _ _ hkt]; omega
          rw [← hX, ← hY, ← hZ] at CC
          rw [← hX, ← hZ] at HA2
          clear hx hlt2 hbad hk0 ht0 HAN HA hX hY hZ
          go_upto_region 8 with fail
          generalize wr.alloc (.cells #[.int .i64 k0, .int .i64 t0, .string dd] 43) = w0 at hB0 hA0 hR0 ⊢
          have HB0 : Hid (Below w.heap.size w w0) := hB0
          have HR0 : Hid (RowT w.heap.size w0 (.slice q m cp) P) := hR0
          have HY : Hid (∀ W, Below w0.heap.size w0 W → W.cell? ⟨wr.heap.size, 2, none⟩ = some (.string dd)) := fun W hb => keep_cell hb (blk_cell hA0 (i := 2) (u := .string dd) rfl)
          have HYL : Hid (wr.heap.size < w0.heap.size ∧ wr.heap.size = wr.heap.size) := ⟨(Array.getElem?_eq_some_iff.1 hA0).1, rfl⟩
          have y0 := blk_cell hA0 (i := 0) (u := .int .i64 k0) rfl
          have y1 := blk_cell hA0 (i := 1) (u := .int .i64 t0) rfl
          have y2 := blk_cell hA0 (i := 2) (u := .string dd) rfl
          have HOB : Hid (∀ g, (Value.slice q m cp).ownBlock = some g → g ≠ wr.heap.size) := fun g hg e => by
            obtain ⟨h9, cur, _⟩ := own_lt HR.out g hg
            omega
          clear hB0 hA0 hR0
          go_wp2_with fail
          refine (CC.out w0).mono ?_
          rintro e w3 ⟨rfl, hb3⟩
          have HB3 : Hid (Below w.heap.size w w3) := bel HB0.out hb3
          have HR3 : Hid (RowT w.heap.size w3 (.slice q m cp) P) := own_below HR0.out hb3
          have HY3 : Hid (∀ W, Below w3.heap.size w3 W → W.cell? ⟨wr.heap.size, 2, none⟩ = some (.string dd)) := fun W hb => HY.out W (bel hb3 hb)
          have HLT3 : Hid (wr.heap.size < w3.heap.size) := Nat.lt_of_lt_of_le HYL.out.1 hb3.size
          have y9 := HY3.out w3 (Below.refl _ _)
          have hs3 : w.heap.size ≤ w3.heap.size := HB3.out.size
          have HTN : Hid (∀ u y, ([X, dd].map Value.string)[u]? = some y → (w3.alloc (.cells #[.string X, .string dd] 9)).cell? ((⟨w3.heap.size, 0, none⟩ : Addr).add u) = some y) := by
            intro u y hu
            rw [Addr.add_lit, Nat.zero_add]
            exact blk_cell (heap_alloc_new w3 (.cells #[.string X, .string dd] 9)) (by simpa using hu)
          clear hb3 CC y0 y1 y2
          go_wp2_with (at_builtin; refine wpList_append_own_at _ rfl (.tmp 47) (.tmp 51) 46 rfl w.heap.size 9 i0 (.string ByteArray.empty) 1 16 Tryd.underlying46 hi0 hz0 hz1 hz2 rfl (by decide) (.slice q m cp) m (P.map Value.string) rfl (by have h9 := World.ownsRow.alloc HR3.out (.cells #[.string X, .string dd] 9); rw [← HM.out] at h9; exact h9) ⟨w3.heap.size, 0, none⟩ 2 2 ([X, dd].map Value.string) rfl rfl HTN.out (by intro u hu; obtain ⟨x, _, rfl⟩ := List.mem_map.1 hu; rfl) (by unfold maxLen; omega) (by omega) (by rw [World.size_alloc]; omega) ?_; intro v9 w9 hown9 hgrow9 _ _; obtain ⟨p9, n9, c9, rfl, hn9⟩ := own_shape hown9; have HR9 : Hid (RowT w.heap.size w9 (.slice p9 n9 c9) (P ++ [X, dd])) := own_appT (a := P) (b := [X, dd]) HM.out.symm rfl hown9; have HN9 : Hid (n9 = (P ++ [X, dd]).length) := (by rw [List.length_append, ← HM.out]; exact hn9.out); have HB9 : Hid (Below w.heap.size w w9) := own_grow HR3.out (HB3.out.alloc hs3 _) hgrow9 (by rw [World.size_alloc]; omega); have y8 : w9.cell? ⟨wr.heap.size, 2, none⟩ = some (.string dd) := hgrow9.cell (HY3.out _ ((Below.refl _ _).alloc (Nat.le_refl _) _)) (fun e => HOB.out wr.heap.size e.symm rfl); clear hown9 hgrow9 hn9)
          go_region
          generalize hwq : World.drew _ = w5
          have HB10 : Hid (Below w.heap.size w w5) := by rw [← hwq]; exact HB9.out.drew
          have HR10 : Hid (RowT w.heap.size w5 (.slice p9 n9 c9) (P ++ [X, dd])) := by rw [← hwq]; exact own_below HR9.out (Below.refl _ _).drew
          clear hwq
          go_wp2_with fail
          go_roundw
          case rel => exact ⟨k + 1, n9, c9, L - t0 + dd.size, p9, Z, P ++ [X, dd], by omega, by go_num, rfl, rfl, by congr 1; omega, HN9, HR10, HA2, HB10⟩
          case measure => simp [intOf]; omega
      · have hltz : ¬ (k : Int) < n := by omega
        have HD := HA.out.done (by rw [HL.out]; omega)
        have HES2 := HES.out _ HD.1
        have HDL : Hid ((flat (P ++ [F])).length = L) := HD.2
        rw [HD.2] at HES2
        by_cases hbig : 200 < L
        · have hbz : (200 : Int) < (L : Int) := by omega
          rw [if_pos hbig, if_pos hbig] at HES2
          have HE : Hid (EE = 4 ∧ RR = []) := HES2
          clear HES2 HD
          go_wp2_with fail
          go_ret2
          exact ⟨by rw [HE.out.1, HE.out.2]; rfl, HB.out⟩
        · have hbz : ¬ (200 : Int) < (L : Int) := by omega
          rw [if_neg hbig, if_neg hbig] at HES2
          have HE : Hid (EE = 0 ∧ RR = flat (P ++ [F])) := HES2
          clear HES2 HD
          have hs0 : w.heap.size ≤ wr.heap.size := HB.out.size
          go_upto_region 17 with (at_make; refine wpList_mk _ rfl (.const (.int .i64 0)) (.tmp 66) 49 rfl 5 i5 (.int .u8 0) Tryd.underlying49 hi5 hy0 hy1 _ _ 0 L rfl rfl rfl rfl (Nat.zero_le _) (by rw [hy2]; omega) (by omega) ?_; generalize hwm : wr.alloc _ = wm; have HBm : Hid (Below w.heap.size w wm) := (by rw [← hwm]; exact HB.out.alloc hs0 _); have HRm : Hid (RowT w.heap.size wm (.slice q m cp) P) := (by rw [← hwm]; exact World.ownsRow.alloc HR.out _); have HTm : Hid (Row wm w.heap.size (.slice (some ⟨wr.heap.size, 0, none⟩) 0 L) []) := (by rw [← hwm]; exact ⟨rfl, Or.inr ⟨wr.heap.size, L, _, rfl, hs0, heap_alloc_new wr _, Nat.zero_le _, by unfold maxLen; omega, by rw [size_madeCells]; omega, rfl⟩⟩); have hsm : w.heap.size ≤ wm.heap.size := HBm.out.size; have HTN : Hid (∀ u y, ([F].map Value.string)[u]? = some y → (wm.alloc (.cells #[.string F] 9)).cell? ((⟨wm.heap.size, 0, none⟩ : Addr).add u) = some y) := (fun u y hu => (by rw [Addr.add_lit, Nat.zero_add]; exact blk_cell (heap_alloc_new wm (.cells #[.string F] 9)) (by simpa using hu))))
          clear hwm
          go_wp2_with (at_builtin; refine wpList_append_own_at _ rfl (.tmp 68) (.tmp 70) 46 rfl w.heap.size 9 i0 (.string ByteArray.empty) 1 16 Tryd.underlying46 hi0 hz0 hz1 hz2 rfl (by decide) (.slice q m cp) m (P.map Value.string) rfl (by have h9 := World.ownsRow.alloc HRm.out (.cells #[.string F] 9); rw [← HM.out] at h9; exact h9) ⟨wm.heap.size, 0, none⟩ 1 1 ([F].map Value.string) rfl rfl HTN.out (by intro u hu; obtain ⟨x, _, rfl⟩ := List.mem_map.1 hu; rfl) (by unfold maxLen; omega) (by omega) (by rw [World.size_alloc]; omega) ?_; intro v9 w9 hown9 hgrow9 _ _; have HT9 : Hid (Row w9 w.heap.size (.slice (some ⟨wr.heap.size, 0, none⟩) 0 L) []) := own_stay (World.ownsRow.alloc HTm.out (.cells #[.string F] 9)) (fun g hg => hgrow9.block g (own_lt (World.ownsRow.alloc HTm.out (.cells #[.string F] 9)) g hg).1 (fun e => kind_off (World.ownsRow.alloc HTm.out (.cells #[.string F] 9)) (World.ownsRow.alloc HRm.out (.cells #[.string F] 9)) (by decide) g hg e.symm)); obtain ⟨p9, n9, c9, rfl, hn9⟩ := own_shape hown9; have HR9 : Hid (RowT w.heap.size w9 (.slice p9 n9 c9) (P ++ [F])) := own_appT (a := P) (b := [F]) HM.out.symm rfl hown9; have HN9 : Hid (n9 = (P ++ [F]).length) := (by rw [List.length_append, ← HM.out]; exact hn9.out); have HB9 : Hid (Below w.heap.size w w9) := own_grow HRm.out (HBm.out.alloc hsm _) hgrow9 (by rw [World.size_alloc]; omega); have hn9b : n9 ≤ 401 := (by have := hn9.out; omega); clear hown9 hgrow9 hn9)
          go_loopw [15, 17, 73] (fun s15 _ s73 wx => ∃ (j m2 c2 : Nat) (q2 : Option Addr), j ≤ n9 ∧ s73 = .int .i64 j ∧ s15 = .slice q2 m2 c2 ∧ Hid (Row wx w.heap.size (.slice q2 m2 c2) (flat ((P ++ [F]).take j))) ∧ Hid (Value.slice q2 m2 c2 ≠ .slice none 0 0) ∧ Hid (RowT w.heap.size wx (.slice p9 n9 c9) (P ++ [F])) ∧ Hid (Below w.heap.size w wx)) (fun _ _ s73 _ => n9 - (intOf s73).toNat)
          case atStart => exact ⟨0, 0, L, _, Nat.zero_le _, rfl, rfl, HT9, (fun e => by injection e with e; cases e), HR9, HB9⟩
          case round =>
            obtain ⟨j, m2, c2, q2, hj, rfl, rfl, HTX, HNE, HRX, HBX⟩ := hrel
            have hm2b : (flat ((P ++ [F]).take j)).length ≤ 200 := by
              have := flat_le (P ++ [F]) j
              rw [HDL.out] at this; omega
            by_cases hjn : j < n9
            · have hjz : (j : Int) < n9 := by omega
              have hjl : j < (P ++ [F]).length := by rw [← HN9.out]; exact hjn
              obtain ⟨p8, c8, e8, hk8, _⟩ := TxJ.own HRX.out
              obtain ⟨b8, o8, rfl, _, hc8⟩ := hk8.some (by intro e; rw [e] at hjl; simp at hjl)
              have d8 := hc8 j hjl
              injection e8 with e81 e82 e83
              subst e81
              obtain ⟨x, hx⟩ : ∃ x, (P ++ [F]).getD j e0 = x := ⟨_, rfl⟩
              rw [hx] at d8
              have HFT : Hid (flat ((P ++ [F]).take (j + 1)) = flat ((P ++ [F]).take j) ++ x.toList) := by rw [Hid, flat_take hjl, hx]
              have hxs : (flat ((P ++ [F]).take j)).length + x.size ≤ 200 := by
                have h9 := flat_le (P ++ [F]) (j + 1)
                rw [HFT.out, HDL.out, List.length_append, Kb.len_eq] at h9; omega
              have hsx : w.heap.size ≤ wr.heap.size := HBX.out.size
              clear hx hc8 hk8 e82 e83 hjl
              go_wp2_with (at_builtin; refine Lib.wpList_append_own_string _ rfl (.tmp 77) (.tmp 78) 49 9 rfl w.heap.size 5 i5 Tryd.underlying49 Tryd.underlying9 hi5 hy0 hy1 hy2 (.slice q2 m2 c2) (flat ((P ++ [F]).take j)).length (bc (flat ((P ++ [F]).take j))) rfl HTX.out x rfl (by unfold maxLen; omega) (by omega) hsx ?_; intro v7 w7 hown7 hgrow7 hnil7; have HR7 : Hid (RowT w.heap.size w7 (.slice (some ⟨b8, o8, none⟩) n9 c9) (P ++ [F])) := own_stay HRX.out (fun g hg => hgrow7.block g (own_lt HRX.out g hg).1 (fun e => kind_off HRX.out HTX.out (by decide) g hg e.symm)); have HB7 : Hid (Below w.heap.size w w7) := own_grow HTX.out HBX.out hgrow7 hsx; have HT7 : Hid (Row w7 w.heap.size v7 (flat ((P ++ [F]).take (j + 1)))) := (by rw [Hid, HFT.out]; unfold Row; rw [List.length_append, bc_append, ← bc_str, Kb.len_eq]; exact hown7); have HN7 : Hid (v7 ≠ .slice none 0 0) := (fun e => HNE.out (hnil7.1 e).1); obtain ⟨p7, n7, c7, rfl, _⟩ := own_shape hown7; clear hown7 hgrow7 hnil7)
              go_roundw
              case rel => exact ⟨j + 1, n7, c7, p7, by omega, by go_num, rfl, HT7, HN7, HR7, HB7⟩
              case measure => simp [intOf]; omega
            · have hjz : ¬ (j : Int) < n9 := by omega
              have HFA : Hid ((P ++ [F]).take j = P ++ [F]) := List.take_of_length_le (by rw [← HN9.out]; omega)
              have hcv := HTX.out.reads HNE.out
              rw [HFA.out] at hcv
              go_wp2_with fail
              go_ret2
              exact ⟨by rw [HE.out.1, HE.out.2]; rfl, HBX.out⟩

end Zj
end Go.Proofs.YtmenknbgmgnfhaaDoor
