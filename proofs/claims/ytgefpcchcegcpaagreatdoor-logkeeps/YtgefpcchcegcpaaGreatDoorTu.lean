/- Package log: the ops of all records that are whole. -/
import Derived.Test.YtgefpcchcegcpaaGreatDoorTs
import Derived.Test.YtgefpcchcegcpaaGreatDoorV2
import Derived.Test.YtgefpcchcegcpaaGreatDoorIq
namespace Go.Proofs.YtgefpcchcegcpaaGreatDoor
namespace Tu
set_option linter.unusedVariables false
set_option linter.unusedSimpArgs false
open Go.ChangeShapes Go.WideShapes Go.ChangeAt Go.RowKit Cm Ka Kb Na Om Oa Oz Oc Og Oi Hm Ia Ic Ie Ih Tg Th Tp Tr Ts
open La (bel bel_drew errV_zero errV_ne own_ge own_grow own_below Lies)

theorem infoO : (Tryz.prog.info? 34).map (fun i => (i.zero, i.size, i.bytes)) = some (some (.agg #[.int .i64 0, .int .i64 0, .int .i64 0, .string ⟨#[]⟩, .int .i64 0, .slice none 0 0]), 6, 72) := by kernel_rfl
/- what an op of a row saw, apart from the row, in blocks from L on -/
def Apart (L : Nat) (w : World) (v : Value) (y : Ox × Value) : Prop :=
  ∃ a b, L ≤ a ∧ (∀ W : World, (∀ k, a ≤ k → k < b → W.heap[k]? = w.heap[k]?) → DtsAt W y.2 y.1.2.2.2.2) ∧ b ≤ w.heap.size ∧ ∀ g, v.ownBlock = some g → ¬ (a ≤ g ∧ g < b)
theorem Apart.at {L : Nat} {w W : World} {v : Value} {y : Ox × Value} (h : Apart L w v y) (hW : ∀ k, L ≤ k → k < w.heap.size → W.heap[k]? = w.heap[k]?) : DtsAt W y.2 y.1.2.2.2.2 := by
  obtain ⟨a, b, h0, h1, h2, _⟩ := h
  exact h1 W (fun k hk1 hk2 => hW k (by omega) (by omega))
theorem Apart.below {L : Nat} {w w2 : World} {v : Value} {y : Ox × Value} (h : Apart L w v y) (hb : Below w.heap.size w w2) : Apart L w2 v y := by
  obtain ⟨a, b, h0, h1, h2, h3⟩ := h
  exact ⟨a, b, h0, fun W hW => h1 W (fun k hk1 hk2 => (hW k hk1 hk2).trans (hb.block k (by omega))), Nat.le_trans h2 hb.size, h3⟩
theorem Apart.grown {L : Nat} {w w2 : World} {v v2 : Value} {y : Ox × Value} (h : Apart L w v y) (hg : w.grownBy w2 v.ownBlock) (hat : v2.ownBlock = v.ownBlock ∨ v2.ownBlock = some w.heap.size) : Apart L w2 v2 y := by
  obtain ⟨a, b, h0, h1, h2, h3⟩ := h
  refine ⟨a, b, h0, fun W hW => h1 W (fun k hk1 hk2 => (hW k hk1 hk2).trans (hg.block k (by omega) (fun e => h3 k e.symm ⟨hk1, hk2⟩))), Nat.le_trans h2 hg.size, ?_⟩
  intro g hg2
  rcases hat with e | e
  · exact h3 g (by rw [← e]; exact hg2)
  · rw [e] at hg2
    injection hg2 with hg2
    omega
theorem apart_new {L : Nat} {w w2 : World} {v u : Value} {x : Ox} (hL : L ≤ w.heap.size) (hk : Kept w.heap.size w2 (opV x u) x) (hv : ∀ g, v.ownBlock = some g → g < w.heap.size) : Apart L w2 v (x, u) := by
  refine ⟨w.heap.size, w2.heap.size, hL, fun W hW => ?_, Nat.le_refl _, fun g hg => by have := hv g hg; omega⟩
  obtain ⟨u2, e, hd⟩ := hk W hW
  unfold opV at e
  injection e with e
  simp only [Array.mk.injEq, List.cons.injEq, and_true] at e
  rw [e.2.2.2.2.2]; exact hd
theorem own_appO {w : World} {base : Nat} {t : TypeId} {v : Value} {n m : Nat} {a b : List (Ox × Value)} (hn : a.length = n) (hm : b.length = m) (h : w.ownsRow base t 6 v (n + m) (flatO a ++ flatO b)) : w.ownsRow base t 6 v (a ++ b).length (flatO (a ++ b)) := by
  rw [List.length_append, flatO_append, hn, hm]; exact h
theorem op_new (w : World) (x : Ox) (u : Value) (t : TypeId) : ∀ j y, (flatO [(x, u)])[j]? = some y → (w.alloc (.cells #[.int .i64 x.1.1, .int .i64 x.1.2, .int .i64 x.2.1, .string x.2.2.1, .int .i64 x.2.2.2.1, u] t)).cell? ((⟨w.heap.size, 0, none⟩ : Addr).add j) = some y := by
  intro j y hu
  have h2 := heap_alloc_new w (.cells #[.int .i64 x.1.1, .int .i64 x.1.2, .int .i64 x.2.1, .string x.2.2.1, .int .i64 x.2.2.2.1, u] t)
  have e : flatO [(x, u)] = [.int .i64 x.1.1, .int .i64 x.1.2, .int .i64 x.2.1, .string x.2.2.1, .int .i64 x.2.2.2.1, u] := rfl
  rw [e] at hu
  rw [Addr.add_lit, Nat.zero_add]
  simp only [World.cell?, h2]
  simpa using hu
theorem flatO_one (x : Ox) (u : Value) (hu : u.oneCell' = true) : ∀ y ∈ flatO [(x, u)], y.oneCell' = true := by
  intro y hy
  have e : flatO [(x, u)] = [.int .i64 x.1.1, .int .i64 x.1.2, .int .i64 x.2.1, .string x.2.2.1, .int .i64 x.2.2.2.1, u] := rfl
  rw [e] at hy
  simp only [List.mem_cons, List.not_mem_nil, or_false] at hy
  rcases hy with rfl | rfl | rfl | rfl | rfl | rfl
  all_goals first | rfl | exact hu
theorem row_grow {w w5 w9 : World} {t : TypeId} {z : Nat} {v : Value} {n : Nat} {xs : List Value} {B : Nat} (h : w5.ownsRow B t z v n xs) (hB : w.heap.size ≤ B) (hb : Below w.heap.size w w5) (hg : w5.grownBy w9 v.ownBlock) : Below w.heap.size w w9 :=
  hb.trans ⟨hg.os, hg.tape, hg.output, hg.size, fun k hk => hg.block k (by have := hb.size; omega) (fun e => by have := (World.ownsRow.lt h k e.symm).1; omega)⟩

/- bytes from some place of a block on -/
def Byt (w : World) (v : Value) (R : List UInt8) : Prop := ∃ P C, v = .slice P R.length C ∧ R.length ≤ C ∧ (R ≠ [] → ∃ g A, P = some ⟨g, A, none⟩ ∧ ∀ j, j < R.length → w.cell? ⟨g, A + j, none⟩ = some (.int .u8 ((R.getD j 0).toNat : Int)))
theorem Byt.below {w w' : World} {v : Value} {R : List UInt8} (h : Byt w v R) (hb : Below w.heap.size w w') : Byt w' v R := by
  obtain ⟨P, C, h1, h2, h3⟩ := h
  refine ⟨P, C, h1, h2, fun hne => ?_⟩
  obtain ⟨g, A, e, hc⟩ := h3 hne
  exact ⟨g, A, e, fun j hj => keep_cell hb (hc j hj)⟩
/- the first record, and what is behind it -/
theorem head_rec {x : Ox} (h0 : opE x = 0) (R : List UInt8) : (recB x ++ R).getD 0 0 = 0 ∧ (((recB x ++ R).getD 1 0).toNat : Int) = (bytesB x).length ∧ ∀ j, j < (bytesB x).length → (recB x ++ R).getD (2 + j) 0 = (bytesB x).getD j 0 := by
  have hl := bytes_le h0
  have e : recB x ++ R = u8 (((bytesB x).length : Int) / 256) :: u8 (((bytesB x).length : Int) % 256) :: (bytesB x ++ R) := by
    unfold recB
    show [_, _] ++ bytesB x ++ R = _
    rfl
  refine ⟨?_, ?_, fun j hj => ?_⟩
  · rw [e, show ((bytesB x).length : Int) / 256 = 0 by omega]; rfl
  · rw [e, show ((bytesB x).length : Int) % 256 = (bytesB x).length by omega]
    show ((u8 ((bytesB x).length : Int)).toNat : Int) = _
    exact u8_val (by omega) (by omega)
  · rw [e, show 2 + j = (j + 1) + 1 by omega]
    show (bytesB x ++ R).getD j 0 = _
    rw [List.getD_eq_getElem?_getD, List.getElem?_append_left hj, ← List.getD_eq_getElem?_getD]
theorem head_part {x : Ox} (h0 : opE x = 0) {k : Nat} (hk : k < (recB x).length) (h2 : 2 ≤ k) : ((recB x).take k).getD 0 0 = 0 ∧ ((((recB x).take k).getD 1 0).toNat : Int) = (bytesB x).length := by
  obtain ⟨h1, h3, _⟩ := head_rec h0 []
  rw [List.append_nil] at h1 h3
  constructor
  · rw [List.getD_eq_getElem?_getD, List.getElem?_take_of_lt (by omega), ← List.getD_eq_getElem?_getD]; exact h1
  · rw [List.getD_eq_getElem?_getD, List.getElem?_take_of_lt (by omega), ← List.getD_eq_getElem?_getD]; exact h3

set_option maxRecDepth 100000 in
set_option maxHeartbeats 4000000 in
theorem ops_any (v : Value) (l : List Ox) (o : Ox) (k : Nat) (w : World) (hl : ∀ x ∈ l, opE x = 0) (hlen : l.length ≤ 400) (ho : opE o = 0) (hk : k < (recB o).length) (hv : Byt w v (eachB l ++ (recB o).take k)) :
    Calls Tryz.prog 30 #[v] w fun e w' => ∃ p c, e = .returned (.slice p l.length c) ∧ (∀ W : World, (∀ k, w.heap.size ≤ k → k < w'.heap.size → W.heap[k]? = w'.heap[k]?) → OpsAt W (.slice p l.length c) l) ∧ Below w.heap.size w w' := by
  have HL := Hid.mk' hl
  have HLEN := Hid.mk' hlen
  have HO := Hid.mk' ho
  have HK := Hid.mk' hk
  have HV := Hid.mk' hv
  obtain ⟨i0, hi, hz0, hz1, hzz2⟩ := info_parts infoO
  obtain ⟨P0, C0, rfl, _⟩ := hv
  obtain ⟨N0, hN0⟩ : ∃ N0, N0 = (eachB l ++ (recB o).take k).length := ⟨_, rfl⟩
  rw [← hN0] at HV ⊢
  clear hl hlen ho hk hN0
  go_enter Tryz.func30, Tryz.ntmps30
  go_wp2_with fail
  go_loopw [0, 3] (fun v0 v3 wr => ∃ (i : Nat) (dn : List (Ox × Value)) (P : Option Addr) (N C : Nat), i ≤ l.length ∧ v0 = .slice P N C ∧ (∃ P N C, v3 = .slice P N C) ∧ Hid (dn.map (·.1) = l.take i) ∧ Hid (Byt w (.slice P N C) (eachB (l.drop i) ++ (recB o).take k)) ∧ Hid (wr.ownsRow w.heap.size 34 6 v3 dn.length (flatO dn)) ∧ Hid (∀ y ∈ dn, Apart w.heap.size wr v3 y) ∧ Hid (Below w.heap.size w wr)) (fun v0 _ _ => match v0 with | .slice _ n _ => n | _ => 0)
  case atStart => exact ⟨0, [], P0, N0, C0, by omega, rfl, ⟨_, _, _, rfl⟩, rfl, HV, World.ownsRow_nil _ _ _ _, (fun y hy => by cases hy), Below.refl _ _⟩
  case round =>
    clear HV
    obtain ⟨i, dn, P, N, C, hil, rfl, ⟨p0, n0, c0, rfl⟩, HDN, HBY, KW, KA, K⟩ := hrel
    by_cases hlt : i < l.length
    · have hx := HL.out l[i] (List.getElem_mem hlt)
      have hdr : eachB (l.drop i) ++ (recB o).take k = recB l[i] ++ (eachB (l.drop (i + 1)) ++ (recB o).take k) := by
        rw [List.drop_eq_getElem_cons hlt, each_cons, List.append_assoc]
      have HTK : Hid (l.take (i + 1) = l.take i ++ [l[i]]) := List.take_succ_eq_append_getElem hlt
      have hby := HBY.out
      rw [hdr] at hby
      obtain ⟨R, hR⟩ : ∃ R, R = eachB (l.drop (i + 1)) ++ (recB o).take k := ⟨_, rfl⟩
      have HR := Hid.mk' hR
      rw [← hR] at hby
      obtain ⟨x, hxe⟩ : ∃ x, x = l[i] := ⟨_, rfl⟩
      rw [← hxe] at hby hx HTK
      obtain ⟨⟨xa, xb⟩, xt, xp, xc, xs⟩ := x
      obtain ⟨h1, h2, h3⟩ := head_rec hx R
      have hb6 := bytes_le hx
      have hrl := recB_len ((xa, xb), xt, xp, xc, xs)
      have hdec : decB (bytesS ((xa, xb), xt, xp, xc, xs)).toList = some ((xa, xb), xt, xp, xc, xs) := decB_iff.2 ⟨hx, (bytesS_list ((xa, xb), xt, xp, xc, xs)).symm⟩
      have hbs : (bytesS ((xa, xb), xt, xp, xc, xs)) = ⟨(bytesB ((xa, xb), xt, xp, xc, xs)).toArray⟩ := rfl
      have hYm : (bytesS ((xa, xb), xt, xp, xc, xs)).size ≤ maxLen := by rw [← Om.len_eq, bytesS_list]; unfold maxLen; omega
      obtain ⟨n1, hn1⟩ : ∃ n1, n1 = (bytesB ((xa, xb), xt, xp, xc, xs)).length := ⟨_, rfl⟩
      rw [← hn1] at h2 h3 hb6 hrl
      obtain ⟨P9, C9, hv9, hNC, hce⟩ := hby
      injection hv9 with e1 e2 e3
      subst e1 e3
      rw [List.length_append, hrl] at e2 hNC hce
      obtain ⟨g, A, rfl, hcf⟩ := hce (by intro e; have := congrArg List.length e; rw [List.length_append, hrl] at this; simp at this)
      clear hce
      have z0 := keep_cell K.out (hcf 0 (by omega))
      have z1 := keep_cell K.out (hcf 1 (by omega))
      rw [h1, Nat.add_zero] at z0
      rw [h2] at z1
      have z0 : wr.cell? ⟨g, A, none⟩ = some (.int .u8 0) := z0
      have hcv : ∀ W : World, Below w.heap.size w W → (convert 60 9 (.slice (some ⟨g, A + 2, none⟩) n1 (C - 2))).run Tryz.prog W = .ok (.string (bytesS ((xa, xb), xt, xp, xc, xs))) W := fun W hb => by
        have h9 := run_convert_bytes_back (P := Tryz.prog) W 60 9 5 ⟨g, A + 2, none⟩ (C - 2) (bytesB ((xa, xb), xt, xp, xc, xs)) Tryz.underlying60 Tryz.underlying5 Tryz.underlying9 (fun j hj => by
          rw [Addr.add_lit]
          have h8 := keep_cell hb (hcf (2 + j) (by omega))
          rw [h3 j (by omega), show A + (2 + j) = A + 2 + j by omega] at h8
          rw [h8, List.getD_eq_getElem?_getD, List.getElem?_eq_getElem hj]; rfl)
        rw [← hn1] at h9
        exact h9
      have HCV := Hid.mk' hcv
      have HREST : Hid (∀ j, j < R.length → w.cell? ⟨g, A + (2 + n1) + j, none⟩ = some (.int .u8 ((R.getD j 0).toNat : Int))) := fun j hj => by
        have h8 := hcf (2 + n1 + j) (by omega)
        rw [List.getD_eq_getElem?_getD, List.getElem?_append_right (by omega), hrl, show 2 + n1 + j - (2 + n1) = j by omega, ← List.getD_eq_getElem?_getD, show A + (2 + n1 + j) = A + (2 + n1) + j by omega] at h8
        exact h8
      have CD := fun W => Vl.decode_kept (bytesS ((xa, xb), xt, xp, xc, xs)) W ((xa, xb), xt, xp, xc, xs) hYm hdec
      simp only [errV_zero] at CD
      obtain ⟨Y, hY⟩ : ∃ Y, Y = bytesS ((xa, xb), xt, xp, xc, xs) := ⟨_, rfl⟩
      rw [← hY] at HCV CD
      have hNz : (2 : Int) ≤ N := by omega
      obtain ⟨ee, hee⟩ : ∃ ee, ee = 2 + n1 := ⟨_, rfl⟩
      have hwr : IntKind.i64.wrap (2 + (n1 : Int)) = (ee : Int) := by rw [IntKind.wrap_i64]; omega
      have hgt : ¬ (N : Int) < (ee : Int) := by omega
      have HN : Hid (N = ee + R.length) := by rw [Hid, hee]; exact e2
      have HNC : Hid (ee + R.length ≤ C) := by rw [Hid, hee]; exact hNC
      have HE : Hid (ee = 2 + n1) := hee
      have HLT := Hid.mk' hlt
      have HDL : Hid (dn.length = i) := by have h9 := congrArg List.length HDN.out; rw [List.length_map, List.length_take] at h9; rw [Hid]; omega
      have hw1 : IntKind.i64.wrap (n1 : Int) = n1 := by rw [IntKind.wrap_i64]; omega
      have HB6 : Hid (6 ≤ n1 ∧ n1 ≤ 140) := hb6
      have hNC2 : ee ≤ C := by omega
      have hee2 : 2 ≤ ee := by omega
      have hC2 : ¬ C = 2 := by omega
      have hsub : ee - 2 = n1 := by omega
      clear e2 hNC h1 h2 h3 hb6 hrl hdec hbs hYm hn1 hR hxe hY hdr hcf hx hlt hcv hee
      obtain ⟨L2, hL2⟩ : ∃ L2, L2 = R.length := ⟨_, rfl⟩
      have hNe : N - ee = L2 := by have := HN.out; omega
      have HL2 := Hid.mk' hL2
      have hNe2 : ee ≤ N := by have := HN.out; omega
      have HNC3 : Hid (L2 ≤ C - ee) := by rw [Hid, hL2]; have := HNC.out; omega
      have HWZ := Hid.mk' K.out.size
      clear hL2
      unfold opV at CD
      simp only at CD
      go_wp2_with fail
      go_quiet (fail)
      generalize hwq : World.drewN _ _ = wq
      have HBq : Hid (Below wr.heap.size wr wq) := by rw [Hid, ← hwq]; exact bel_drew (Below.refl _ _) _
      have hcq := HCV.out wq (bel K.out HBq.out)
      have CDq := CD wq
      clear hwq z0 z1 CD
      go_wp2_with fail
      refine CDq.mono ?_
      rintro e w5 ⟨pv, nv, cv, rfl, hu, hb5⟩
      have HB5 : Hid (Below wr.heap.size wr w5) := bel HBq.out hb5
      have K5 : Hid (Below w.heap.size w w5) := bel K.out HB5.out
      have HAP : Hid (Apart w.heap.size w5 (.slice p0 n0 c0) (((xa, xb), xt, xp, xc, xs), Value.slice pv nv cv)) := apart_new (w := wq) (by have := K.out.size; have := HBq.out.size; omega) hu (fun g hg => by have := (KW.out.lt g hg).2; have := HBq.out.size; omega)
      have KA5 : Hid (∀ y ∈ dn, Apart w.heap.size w5 (.slice p0 n0 c0) y) := fun y hy => (KA.out y hy).below HB5.out
      have KW5 : Hid (w5.ownsRow w.heap.size 34 6 (.slice p0 n0 c0) dn.length (flatO dn)) := own_below KW.out HB5.out
      have HBX : Hid (∀ O1 O2, Below w5.heap.size w5 ((w5.alloc O1).alloc O2)) := fun O1 O2 => ((Below.refl _ _).alloc (Nat.le_refl _) O1).alloc (by simp) O2
      have HN6 : Hid (∀ j y, (flatO [(((xa, xb), xt, xp, xc, xs), Value.slice pv nv cv)])[j]? = some y → ((w5.alloc (.cells #[.int .i64 xa, .int .i64 xb, .int .i64 xt, .string xp, .int .i64 xc, .slice pv nv cv] 34)).alloc (.cells #[.int .i64 xa, .int .i64 xb, .int .i64 xt, .string xp, .int .i64 xc, .slice pv nv cv] 34)).cell? ((⟨w5.heap.size + 1, 0, none⟩ : Addr).add j) = some y) := by
        have h9 := op_new (w5.alloc (.cells #[.int .i64 xa, .int .i64 xb, .int .i64 xt, .string xp, .int .i64 xc, .slice pv nv cv] 34)) ((xa, xb), xt, xp, xc, xs) (.slice pv nv cv) 34
        rwa [show (w5.alloc (.cells #[.int .i64 xa, .int .i64 xb, .int .i64 xt, .string xp, .int .i64 xc, .slice pv nv cv] 34)).heap.size = w5.heap.size + 1 by simp] at h9
      have HDL4 : Hid (dn.length ≤ 400) := by rw [Hid, HDL.out]; have := HLEN.out; omega
      have hcap1 : dn.length + 1 ≤ maxLen := by have := HDL4.out; unfold maxLen; omega
      have hcap2 : (dn.length + 1) * 72 ≤ 140737488355328 := by have := HDL4.out; omega
      have HZ6 : Hid (∀ O1 O2, w.heap.size ≤ ((w5.alloc O1).alloc O2).heap.size) := fun O1 O2 => Nat.le_trans K5.out.size (HBX.out O1 O2).size
      clear hb5 CDq hu hcq
      by_cases hCe : C = ee
      all_goals
        go_wp2_with (at_builtin; refine wpList_append_own_at _ rfl (.tmp 33) (.tmp 35) 40 rfl w.heap.size 34 i0 (.agg #[.int .i64 0, .int .i64 0, .int .i64 0, .string ⟨#[]⟩, .int .i64 0, .slice none 0 0]) 6 72 Tryz.underlying40 hi hz0 hz1 hzz2 rfl (by decide) (.slice p0 n0 c0) dn.length (flatO dn) rfl ((KW5.out.alloc _).alloc _) ⟨w5.heap.size + 1, 0, none⟩ 1 1 (flatO [(((xa, xb), xt, xp, xc, xs), Value.slice pv nv cv)]) rfl rfl HN6.out (flatO_one _ _ rfl) hcap1 hcap2 (HZ6.out _ _) ?_; intro v9 w9 hown9 hgrow9 _ hat9; have KW9 : Hid (w9.ownsRow w.heap.size 34 6 v9 (dn ++ [(((xa, xb), xt, xp, xc, xs), Value.slice pv nv cv)]).length (flatO (dn ++ [(((xa, xb), xt, xp, xc, xs), Value.slice pv nv cv)]))) := own_appO rfl rfl hown9; have HB9 : Hid (Chg (fun g => (Value.slice p0 n0 c0).ownBlock = some g) w5 w9) := ((Chg.ofBelow (HBX.out _ _) _).trans (Chg.grown hgrow9 (fun g e => e))); have K9 : Hid (Below w.heap.size w w9) := row_grow ((KW5.out.alloc _).alloc _) (Nat.le_refl _) (bel K5.out (HBX.out _ _)) hgrow9; have KA9 : Hid (∀ y ∈ dn ++ [(((xa, xb), xt, xp, xc, xs), Value.slice pv nv cv)], Apart w.heap.size w9 v9 y) := (fun y hy => by (rcases List.mem_append.1 hy with hy | hy); (exact ((KA5.out y hy).below (HBX.out _ _)).grown hgrow9 hat9); (rw [List.mem_singleton.1 hy]; exact (HAP.out.below (HBX.out _ _)).grown hgrow9 hat9)); obtain ⟨p9, N9, c9, hv9, _⟩ := own_shape KW9.out; subst hv9; clear hown9 hgrow9 hat9)
        go_roundw
        case rel =>
          refine ⟨i + 1, dn ++ [(((xa, xb), xt, xp, xc, xs), Value.slice pv nv cv)], _, _, _, HLT.out, rfl, ⟨_, _, _, rfl⟩, ?_, ?_, KW9, KA9, K9⟩
          · rw [Hid, List.map_append, HDN.out, HTK.out]; rfl
          · rw [Hid, ← HR.out]
            refine ⟨_, _, by rw [HL2.out], ?_, fun hne => ?_⟩
            · first | (rw [← HL2.out]; exact HNC3.out) | (rw [← HL2.out]; have := HNC3.out; omega)
            · first
                | exact ⟨g, A + ee, rfl, fun j hj => by rw [HE.out]; exact HREST.out j hj⟩
                | (exfalso; have h1 := List.length_pos_iff.2 hne; rw [← HL2.out] at h1; have h2 := HNC3.out; omega)
        case measure =>
          show L2 < N
          omega
    · have hil2 : i = l.length := by omega
      subst hil2
      have hby := HBY.out
      rw [List.drop_length] at hby
      have hby : Byt w (.slice P N C) ((recB o).take k) := hby
      have HRT : Hid (dn.length = l.length) := by have h9 := congrArg List.length HDN.out; rw [List.length_map, List.length_take] at h9; rw [Hid]; omega
      have KO : Hid (∀ W : World, (∀ k, w.heap.size ≤ k → k < wr.heap.size → W.heap[k]? = wr.heap[k]?) → OpsAt W (.slice p0 n0 c0) l) := fun W hW => by
        have h9 := own_ops (own_same KW.out (fun k h1 h2 => hW k h1 h2)) (fun y hy => (KA.out y hy).at (fun k h1 h2 => hW k h1 h2))
        rw [HDN.out, List.take_length] at h9
        exact h9
      have HN9 : Hid (n0 = l.length) := by
        obtain ⟨p, N, c, e, h⟩ := own_shape KW.out
        injection e with e1 e2 e3
        rw [Hid, e2, h.out, HRT.out]
      obtain ⟨P9, C9, hv9, hNC, hce⟩ := hby
      injection hv9 with e1 e2 e3
      rw [List.length_take] at e2
      have hkl := HK.out
      have hNk : N = k := by omega
      by_cases hk2 : k < 2
      · have hNz : ¬ (2 : Int) ≤ N := by omega
        clear e1 e2 e3 hNk hce hNC hk2 hkl hlt hil
        go_wp2_with fail
        go_ret
        exact ⟨p0, c0, by rw [← HN9.out]; rfl, by rw [← HN9.out]; exact KO.out, K.out⟩
      · obtain ⟨h1, h2⟩ := head_part HO.out HK.out (by omega)
        have hb6 := bytes_le HO.out
        have hrl := recB_len o
        obtain ⟨n1, hn1⟩ : ∃ n1, n1 = (bytesB o).length := ⟨_, rfl⟩
        rw [← hn1] at h2 hb6 hrl
        have hlt2 : ((recB o).take k).length = k := by rw [List.length_take]; omega
        obtain ⟨g, A, hP, hcf⟩ := hce (by intro e; rw [e] at hlt2; simp at hlt2; omega)
        have z0 := keep_cell K.out (hcf 0 (by omega))
        have z1 := keep_cell K.out (hcf 1 (by omega))
        rw [h1, Nat.add_zero] at z0
        rw [h2] at z1
        have z0 : wr.cell? ⟨g, A, none⟩ = some (.int .u8 0) := z0
        have hPe : P = some ⟨g, A, none⟩ := e1.trans hP
        subst hPe
        obtain ⟨ee, hee⟩ : ∃ ee, ee = 2 + n1 := ⟨_, rfl⟩
        have hwr : IntKind.i64.wrap (2 + (n1 : Int)) = (ee : Int) := by rw [IntKind.wrap_i64]; omega
        have hw1 : IntKind.i64.wrap (n1 : Int) = n1 := by rw [IntKind.wrap_i64]; omega
        have hNz : (2 : Int) ≤ N := by omega
        have hgt : (N : Int) < (ee : Int) := by omega
        clear e1 e2 e3 hNk hce hNC hk2 hkl hlt hil h1 h2 hb6 hrl hn1 hlt2 hP hcf hee
        go_wp2_with fail
        go_quiet (fail)
        generalize hwq : World.drewN _ _ = wq
        have HBq : Hid (Below wr.heap.size wr wq) := by rw [Hid, ← hwq]; exact bel_drew (Below.refl _ _) _
        have HHq : Hid (∀ k : Nat, wq.heap[k]? = wr.heap[k]?) := fun k => by rw [← hwq]; rfl
        have HZq : Hid (wq.heap.size = wr.heap.size) := by rw [Hid, ← hwq]; rfl
        clear hwq z0 z1
        go_wp2_with fail
        go_ret
        exact ⟨p0, c0, by rw [← HN9.out]; rfl, fun W hW => by rw [← HN9.out]; exact KO.out W (fun k h1 h2 => (hW k h1 (by have := HZq.out; omega)).trans (HHq.out k)), bel K.out HBq.out⟩

end Tu
end Go.Proofs.YtgefpcchcegcpaaGreatDoor
