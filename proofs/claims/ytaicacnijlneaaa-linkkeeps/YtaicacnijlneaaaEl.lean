/- The walk of LinkKeeps: what is asked of package link is a premise here. -/
import Derived.Test.YtaicacnijlneaaaEi
import Derived.Test.YtaicacnijlneaaaEj
import Derived.Deep.DeepCutAuto
import Derived.Deep.RegionLaw
namespace Go.Proofs.Ytaicacnijlneaaa
namespace El
set_option linter.unusedVariables false
set_option linter.unusedSimpArgs false
open Go.ChangeShapes Go.WideShapes Go.ChangeAt Go.RowKit Ka Kb Ec Ed Ef Eg Eh Ej
open Ei (tx new_bad new_good)

def one1 : Ln := { Ec.new 1 1 with all := [tx] }
theorem one_send : sendE (Ec.new 1 1) tx = 0 ∧ sendS (Ec.new 1 1) tx = one1 := ⟨by decide, rfl⟩
theorem one_out : outF one1 = [(false, 1, ⟨#[120]⟩)] := by rfl
def aw (W X : Nat) (l : List ByteArray) : Ln := { Ec.new W X with all := l }
theorem text_new (w : World) (d : ByteArray) (t : TypeId) : ∀ j y, ([d].map Value.string)[j]? = some y → (w.alloc (.cells #[.string d] t)).cell? ((⟨w.heap.size, 0, none⟩ : Addr).add j) = some y := by
  intro j y hu
  have h2 := heap_alloc_new w (.cells #[.string d] t)
  rw [Addr.add_lit, Nat.zero_add]
  simp only [World.cell?, h2]
  simpa using hu
theorem send_k {W X : Nat} {l : List ByteArray} {d : ByteArray} (hl : l.length < 30) : sendE (aw W X l) d = (if 200 < d.size then 4 else 0) ∧ sendS (aw W X l) d = aw W X (if 200 < d.size then l else l ++ [d]) := by
  have h1 : left (aw W X l) = l.length := rfl
  have he : sendE (aw W X l) d = (if 200 < d.size then 4 else 0) := by
    unfold sendE
    rw [h1]
    by_cases h : 200 < d.size
    · rw [if_pos (Or.inl h), if_pos h]
    · rw [if_neg (by omega), if_neg h]
  refine ⟨he, ?_⟩
  unfold sendS
  rw [he]
  by_cases h : 200 < d.size
  · rw [if_pos h, if_pos h]; rfl
  · rw [if_neg h, if_neg h]; rfl
theorem start_k {W X : Nat} {l : List ByteArray} (h : newE W X = 0) (hs : ∀ d ∈ l, d.size ≤ 200) : K l (aw W X l) (Ec.new W X) := by
  have i0 := inv_new h
  exact ⟨⟨i0.w1, i0.w2, i0.x1, i0.x2, Nat.le_refl _, Nat.zero_le _, Nat.zero_le _⟩, i0, rfl, rfl, rfl, rfl, Nat.le_refl _, Nat.le_refl _, hs⟩
theorem take_own {B : Nat} {w : World} {p : Option Addr} {n c : Nat} {l : List ByteArray} (h : RowT B w (.slice p n c) l) {k : Nat} (hk : k ≤ l.length) : n = l.length ∧ n ≤ c ∧ TxJ (fun _ => True) w (.slice p k c) (l.take k) := by
  have hl : (l.take k).length = k := by rw [List.length_take]; omega
  rcases h.2 with ⟨e, e0⟩ | ⟨g, cap, cur, e, hg, hc, h1, h2, h3, h4⟩
  · have : l = [] := List.eq_nil_of_length_eq_zero e0
    subst this
    injection e with e1 e2 e3
    subst e1 e2 e3
    have : k = 0 := by simpa using hk
    subst this
    exact ⟨rfl, Nat.le_refl _, TxJ.nil _ _⟩
  · injection e with e1 e2 e3
    subst e1 e3
    refine ⟨e2, by omega, some ⟨g, 0, none⟩, c, by rw [hl], ?_, by rw [hl]; omega, h2, fun e => by cases e⟩
    refine Or.inr ⟨g, 0, rfl, trivial, fun j hj => ?_⟩
    rw [hl] at hj
    have h' : RowT B w (.slice (some ⟨g, 0, none⟩) l.length c) l := by rw [← e2]; exact h
    have h9 := World.ownsRow.cells h' (g := g) rfl j (.string (l.getD j e0)) (by rw [List.getElem?_map, List.getElem?_eq_getElem (by omega), List.getD_eq_getElem?_getD, List.getElem?_eq_getElem (by omega)]; rfl)
    rw [Addr.add_lit] at h9
    rw [h9, List.getD_eq_getElem?_getD, List.getD_eq_getElem?_getD, List.getElem?_take_of_lt hj]
theorem un_tail {sent : List ByteArray} {a : Ln} {x : Fr} {l : List Fr} (h : ∀ f ∈ x :: l, Un sent a f) : ∀ f ∈ l, Un sent a f := fun f hf => h f (List.mem_cons_of_mem _ hf)
theorem says_len {s : Ln} (I : Inv s) : (saysN s).length ≤ 16 := by
  have h1 : (saysN s).length ≤ (List.range' (s.acked + 1) (last s - s.acked)).length := List.length_filter_le _ _
  rw [List.length_range'] at h1
  have h2 := I.w2
  unfold last at h1
  omega
theorem out_len {sent : List ByteArray} {a b : Ln} (h : K sent a b) : (outF a).length ≤ 16 := by
  unfold outF
  rw [h.ao]
  simp only [Bool.false_eq_true, if_false, List.nil_append, List.length_map]
  exact says_len h.ia

set_option maxRecDepth 100000 in
set_option maxHeartbeats 16000000 in
theorem walk (L : LinkSays) (wi wa : Int) (vd : Value) (D : List ByteArray) (vf : Value) (Ft : List Int) (w : World) (hd : Txts w vd D) (hf : Nums w vf Ft) :
    Calls Try.prog 3 #[.int .i64 wi, .int .i64 wa, vd, vf] w fun e w' => e = .returned (.bool true) ∧ Below w.heap.size w w' := by
  obtain ⟨⟨pd, cd, rfl, hdk, hdl, hdc, _⟩, hds⟩ := hd
  obtain ⟨pf, cf, rfl, hfk, hfm⟩ := hf
  obtain ⟨nd, hnd⟩ : ∃ nd, nd = D.length := ⟨_, rfl⟩
  obtain ⟨nf, hnf⟩ : ∃ nf, nf = Ft.length := ⟨_, rfl⟩
  have hndm : (nd : Int) ≤ 9223372036854775807 := by unfold maxLen at hdc; omega
  have hnfm : (nf : Int) ≤ 9223372036854775807 := by unfold maxLen at hfm; omega
  rw [← hnd, ← hnf]
  have HND : Hid (D.length = nd) := hnd.symm
  have HNF : Hid (Ft.length = nf) := hnf.symm
  have HDK : Hid (TxK (fun g => g < w.heap.size) w pd D) := hdk
  have HDS : Hid (∀ d ∈ D, d.size ≤ maxLen) := hds
  have HFK : Hid (Ft = [] ∨ ∃ b o, pf = some ⟨b, o, none⟩ ∧ ∀ j, j < Ft.length → w.cell? ⟨b, o + j, none⟩ = some (.int .i64 (Ft.getD j 0))) := hfk
  clear hdk hds hfk hnd hnf hdl hdc hfm
  by_cases hE : newE wi wa = 0
  case neg =>
    have C1 : Hid (∀ W, Calls Try.prog 5 #[.int .i64 wi, .int .i64 wa] W fun e w' => e = .returned (.tuple #[.pointer none, .iface 40 (.int .i64 1)]) ∧ Below W.heap.size W w') := fun W => new_bad L wi wa W hE
    have hcs : wi < 1 ∨ (¬ wi < 1 ∧ 16 < wi) ∨ (¬ wi < 1 ∧ ¬ 16 < wi ∧ wa < 1) ∨ (¬ wi < 1 ∧ ¬ 16 < wi ∧ ¬ wa < 1 ∧ 20 < wa) := by
      unfold newE at hE
      by_cases h9 : wi < 1 ∨ 16 < wi ∨ wa < 1 ∨ 20 < wa
      · omega
      · rw [if_neg h9] at hE; exact absurd rfl hE
    clear hE
    rcases hcs with h1 | ⟨h1, h2⟩ | ⟨h1, h2, h3⟩ | ⟨h1, h2, h3, h4⟩
    all_goals
      go_enter Try.func3, Try.ntmps3
      go_wp2_with fail
      refine (C1.out w).mono ?_
      rintro e w1 ⟨rfl, hb1⟩
      have HB1 : Hid (Below w.heap.size w w1) := hb1
      clear hb1
      go_wp2_with fail
      refine (C1.out w1).mono ?_
      rintro e w2 ⟨rfl, hb2⟩
      have HB2 : Hid (Below w.heap.size w w2) := bel HB1.out hb2
      clear hb2
      go_wp2_with fail
      go_ret
      exact ⟨rfl, HB2.out⟩
  case pos =>
  have hwb : 1 ≤ wi ∧ wi ≤ 16 ∧ 1 ≤ wa ∧ wa ≤ 20 := by
    unfold newE at hE
    by_cases h9 : wi < 1 ∨ 16 < wi ∨ wa < 1 ∨ 20 < wa
    · rw [if_pos h9] at hE; cases hE
    · omega
  obtain ⟨WN, rfl⟩ : ∃ WN : Nat, wi = WN := ⟨wi.toNat, by omega⟩
  obtain ⟨WT, rfl⟩ : ∃ WT : Nat, wa = WT := ⟨wa.toNat, by omega⟩
  have hwt : WT ≤ 20 := by omega
  have hwt1 : 1 ≤ WT := by omega
  have HNE : Hid (newE (WN : Int) (WT : Int) = 0) := hE
  have CN : Hid (∀ W, Calls Try.prog 5 #[.int .i64 (WN : Int), .int .i64 (WT : Int)] W fun e w' => ∃ X F, e = .returned (.tuple #[ptr X, .nilIface]) ∧ L.At w' X (aw WN WT []) F ∧ (∀ g, F g → W.heap.size ≤ g) ∧ Below W.heap.size W w') := fun W => by
    have h9 := new_good L (WN : Int) (WT : Int) W hE
    rw [show (WN : Int).toNat = WN by omega, show (WT : Int).toNat = WT by omega] at h9
    exact h9
  have CO : Hid (∀ W, Calls Try.prog 5 #[.int .i64 1, .int .i64 1] W fun e w' => ∃ X F, e = .returned (.tuple #[ptr X, .nilIface]) ∧ L.At w' X (Ec.new 1 1) F ∧ (∀ g, F g → W.heap.size ≤ g) ∧ Below W.heap.size W w') := fun W => new_good L 1 1 W (by decide)
  clear hE hwb
  go_enter Try.func3, Try.ntmps3
  go_wp2_with fail
  refine (CN.out w).mono ?_
  rintro e w1 ⟨X, F1, rfl, hx, hf1, hb1⟩
  have HB1 : Hid (Below w.heap.size w w1) := hb1
  have HX1 : Hid (L.At w1 X (aw WN WT []) F1) := hx
  have HF1 : Hid (∀ g, F1 g → w.heap.size ≤ g) := hf1
  clear hb1 hx hf1
  go_wp2_with fail
  refine (CN.out w1).mono ?_
  rintro e w2 ⟨Y, G1, rfl, hy, hg1, hb2⟩
  have HB2 : Hid (Below w.heap.size w w2) := bel HB1.out hb2
  have HT2 : Hid (Two L w.heap.size w2 X Y (aw WN WT []) (Ec.new WN WT) F1 G1) := ⟨L.below HX1.out hb2, hy, fun g e1 e2 => by have := L.lt HX1.out g e1; have := hg1 g e2; omega, HF1.out, fun g hg => Nat.le_trans HB1.out.size (hg1 g hg)⟩
  clear hb2 hy hg1 HX1 HF1 HB1 CN
  go_wp2_with fail
  refine (CO.out w2).mono ?_
  rintro e w3 ⟨Z, Hz, rfl, hz, hhz, hb3⟩
  have HB3 : Hid (Below w.heap.size w w3) := bel HB2.out hb3
  have HT3 : Hid (Two L w.heap.size w3 X Y (aw WN WT []) (Ec.new WN WT) F1 G1) := HT2.out.below hb3
  have HZO : Hid (∀ g, Hz g → w2.heap.size ≤ g) := hhz
  have HW23 : Hid (w2.heap.size ≤ w3.heap.size) := hb3.size
  have HXL : Hid ((∀ g, F1 g → g < w2.heap.size) ∧ ∀ g, G1 g → g < w2.heap.size) := ⟨L.lt HT2.out.x, L.lt HT2.out.y⟩
  have C3 := L.send Z (Ec.new 1 1) Hz tx w3 hz ⟨by decide, by decide, by decide⟩ (by unfold maxLen tx; decide)
  rw [one_send.1, one_send.2, errV_zero] at C3
  clear hb3 hz hhz HT2 CO
  go_wp2_with fail
  refine C3.mono ?_
  rintro e w4 ⟨rfl, H4, hz4, hc4, hf4⟩
  have HZ4 : Hid (L.At w4 Z one1 H4) := hz4
  have HZO4 : Hid (∀ g, H4 g → w2.heap.size ≤ g) := fun g hg => by
    rcases hf4 g hg with e | e
    · exact HZO.out g e
    · exact Nat.le_trans HW23.out e
  have HT4 : Hid (Two L w.heap.size w4 X Y (aw WN WT []) (Ec.new WN WT) F1 G1) := ⟨L.chg HT3.out.x hc4 (fun g h1 h2 => by have := HXL.out.1 g h1; have := HZO.out g h2; omega), L.chg HT3.out.y hc4 (fun g h1 h2 => by have := HXL.out.2 g h1; have := HZO.out g h2; omega), HT3.out.off, HT3.out.lx, HT3.out.ly⟩
  have HB4 : Hid (Below w.heap.size w w4) := hc4.below (fun g hg => Nat.le_trans HB2.out.size (HZO.out g hg)) HB3.out HB3.out.size
  have C4 := L.out Z one1 H4 w4 hz4 ⟨by decide, by decide, by decide⟩
  clear C3 hz4 hc4 hf4 HT3 HB3
  go_wp2_with fail
  refine C4.mono ?_
  rintro e w5 ⟨p5, n5, c5, H5, rfl, hfr, _, hc5, _⟩
  rw [one_out] at hfr
  obtain ⟨q5, d5, e5, hfk, h51, h52, _⟩ := hfr
  injection e5 with e5a e5b e5c
  have e5d : n5 = 1 := by rw [e5b]; rfl
  subst e5a e5c e5d
  obtain ⟨bb, ob, rfl, hRb, hcc⟩ := hfk.some (by simp)
  obtain ⟨f0, f1, f2⟩ := hcc 0 (by simp)
  have x1 : w5.cell? ⟨bb, ob + 1, none⟩ = some (.int .i64 1) := by have := f1; rw [Nat.zero_mul, Nat.add_zero] at this; exact this
  have x2 : w5.cell? ⟨bb, ob + 2, none⟩ = some (.string ⟨#[120]⟩) := by have := f2; rw [Nat.zero_mul, Nat.add_zero] at this; exact this
  have HT5 : Hid (Two L w.heap.size w5 X Y (aw WN WT []) (Ec.new WN WT) F1 G1) := ⟨L.chg HT4.out.x hc5 (fun g h1 h2 => by have := HXL.out.1 g h1; have := HZO4.out g h2; omega), L.chg HT4.out.y hc5 (fun g h1 h2 => by have := HXL.out.2 g h1; have := HZO4.out g h2; omega), HT4.out.off, HT4.out.lx, HT4.out.ly⟩
  have HB5 : Hid (Below w.heap.size w w5) := hc5.below (fun g hg => Nat.le_trans HB2.out.size (HZO4.out g hg)) HB4.out HB4.out.size
  clear C4 hc5 hfk hcc f0 f1 f2 h51 h52 e5b HT4 HB4 HZ4 HZO4 HZO HXL hRb
  go_wp2_with fail
  obtain ⟨i0, hi, hz0, hz1, hzz2⟩ := info_parts infoS
  go_loopw [16, 17] (fun v16 v17 wr => ∃ (i : Nat) (sent : List ByteArray) (F : Nat → Prop), i ≤ nd ∧ i ≤ 30 ∧ v17 = .int .i64 i ∧ (∃ P N C, v16 = .slice P N C) ∧ Hid (sent.length ≤ i) ∧ Hid (∀ d ∈ sent, d.size ≤ 200) ∧ Hid (RowT w.heap.size wr v16 sent) ∧ Hid (Two L w.heap.size wr X Y (aw WN WT sent) (Ec.new WN WT) F G1) ∧ Hid (∀ g, v16.ownBlock = some g → ¬ F g ∧ ¬ G1 g) ∧ Hid (Below w.heap.size w wr)) (fun _ vi _ => 30 - (intOf vi).toNat)
  case atStart => exact ⟨0, [], F1, by omega, by omega, rfl, ⟨_, _, _, rfl⟩, Nat.le_refl _, (fun d hd => by cases hd), World.ownsRow_nil _ _ _ _, HT5, (fun g hg => by cases hg), HB5⟩
  case round =>
  clear HT5 HB5 HB2 HW23 x1 x2
  obtain ⟨i, sent, F, hin, hi30, rfl, ⟨p6, n6, c6, rfl⟩, HSL, HSS, HRW, HT, HOF, HB⟩ := hrel
  go_upto_region 13 with fail
  go_cut [103] from 96 to 119 (fun s9 wx => ∃ t : Bool, s9 = .bool t ∧ Hid (t = decide (i < nd ∧ i < 30)) ∧ wr = wx)
  case first =>
    by_cases h1 : i < nd
    · have h1z : (i : Int) < nd := by omega
      by_cases h2 : i < 30
      · have h2z : (i : Int) < 30 := by omega
        go_wp2_with fail
        go_meet
        case rel => exact ⟨true, rfl, (decide_eq_true ⟨h1, h2⟩).symm, rfl⟩
      · have h2z : ¬ (i : Int) < 30 := by omega
        have H2 : Hid (decide (i < nd ∧ i < 30) = false) := decide_eq_false (fun h => h2 h.2)
        go_wp2_with fail
        go_meet
        case rel => exact ⟨false, by simp [h2], H2.out.symm, rfl⟩
    · have h1z : ¬ (i : Int) < nd := by omega
      have H2 : Hid (decide (i < nd ∧ i < 30) = false) := decide_eq_false (fun h => h1 h.1)
      go_wp2_with fail
      go_meet
      case rel => exact ⟨false, rfl, H2.out.symm, rfl⟩
  case rest =>
  obtain ⟨tt, rfl, HTT, rfl⟩ := hcut
  cases tt
  case true =>
    obtain ⟨hlt1, hlt2⟩ := of_decide_eq_true HTT.out.symm
    have hltz : (i : Int) < nd := by omega
    have hkl : i < D.length := by rw [HND.out]; exact hlt1
    obtain ⟨bo, oo, rfl, _, hc⟩ := HDK.out.some (by intro e; rw [e] at hkl; simp at hkl)
    have ha0 := hc i hkl
    have hdm := HDS.out (D.getD i e0) (by rw [List.getD_eq_getElem?_getD, List.getElem?_eq_getElem hkl]; exact List.getElem_mem _)
    obtain ⟨d, hd⟩ : ∃ d, d = D.getD i e0 := ⟨_, rfl⟩
    rw [← hd] at ha0 hdm
    have HD0 : Hid (∀ W, Below w.heap.size w W → W.cell? ⟨bo, oo + i, none⟩ = some (.string d)) := fun W hb => keep_cell hb ha0
    have C := L.send X (aw WN WT sent) F d wr HT.out.x ⟨by show sent.length ≤ 1000; have := HSL.out; omega, Nat.zero_le _, Nat.zero_le _⟩ hdm
    rw [(send_k (W := WN) (X := WT) (d := d) (show sent.length < 30 by have := HSL.out; omega)).1, (send_k (W := WN) (X := WT) (d := d) (show sent.length < 30 by have := HSL.out; omega)).2] at C
    have a0 := HD0.out wr HB.out
    clear hc hkl ha0 hd hdm HTT
    by_cases h200 : 200 < d.size
    · rw [if_pos h200, if_pos h200, errV_ne (by decide)] at C
      go_wp2_with fail
      refine C.mono ?_
      rintro e w6 ⟨rfl, F6, hx6, hc6, hf6⟩
      have HT6 : Hid (Two L w.heap.size w6 X Y (aw WN WT sent) (Ec.new WN WT) F6 G1) := HT.out.set_x HB.out.size hx6 hc6 hf6
      have HB6 : Hid (Below w.heap.size w w6) := hc6.below HT.out.lx HB.out HB.out.size
      have HRW6 : Hid (RowT w.heap.size w6 (.slice p6 n6 c6) sent) := own_stay HRW.out fun g hg => hc6.block g (own_lt HRW.out g hg).1 (HOF.out g hg).1
      have HOF6 : Hid (∀ g, (Value.slice p6 n6 c6).ownBlock = some g → ¬ F6 g ∧ ¬ G1 g) := fun g hg => ⟨fun e => by
        rcases hf6 g e with e | e
        · exact (HOF.out g hg).1 e
        · have := (own_lt HRW.out g hg).1; omega, (HOF.out g hg).2⟩
      clear C hx6 hc6 hf6 a0
      go_wp2_with fail
      go_roundw
      case rel => exact ⟨i + 1, sent, F6, by omega, by omega, by go_num, ⟨_, _, _, rfl⟩, by unfold Hid; have := HSL.out; omega, HSS, HRW6, HT6, HOF6, HB6⟩
      case measure => simp [intOf]; omega
    · rw [if_neg h200, if_neg h200, errV_zero] at C
      have HD200 : Hid (d.size ≤ 200) := by unfold Hid; omega
      go_wp2_with fail
      refine C.mono ?_
      rintro e w6 ⟨rfl, F6, hx6, hc6, hf6⟩
      have HT6 : Hid (Two L w.heap.size w6 X Y (aw WN WT (sent ++ [d])) (Ec.new WN WT) F6 G1) := HT.out.set_x HB.out.size hx6 hc6 hf6
      have HB6 : Hid (Below w.heap.size w w6) := hc6.below HT.out.lx HB.out HB.out.size
      have HRW6 : Hid (RowT w.heap.size w6 (.slice p6 n6 c6) sent) := own_stay HRW.out fun g hg => hc6.block g (own_lt HRW.out g hg).1 (HOF.out g hg).1
      have HOF6 : Hid (∀ g, (Value.slice p6 n6 c6).ownBlock = some g → ¬ F6 g ∧ ¬ G1 g) := fun g hg => ⟨fun e => by
        rcases hf6 g e with e | e
        · exact (HOF.out g hg).1 e
        · have := (own_lt HRW.out g hg).1; omega, (HOF.out g hg).2⟩
      clear C hx6 hc6 hf6 a0
      have a0 := HD0.out w6 HB6.out
      have HN6 : Hid (∀ j y, ([d].map Value.string)[j]? = some y → (w6.alloc (.cells #[.string d] 9)).cell? ((⟨w6.heap.size, 0, none⟩ : Addr).add j) = some y) := text_new w6 d 9
      have HSZ6 : Hid (∀ O1, w.heap.size ≤ (w6.alloc O1).heap.size) := fun O1 => by have := HB6.out.size; simp; omega
      have HBX : Hid (∀ O1, Below w6.heap.size w6 (w6.alloc O1)) := fun O1 => (Below.refl _ _).alloc (Nat.le_refl _) O1
      have hcap1 : sent.length + 1 ≤ maxLen := by have := HSL.out; unfold maxLen; omega
      have hcap2 : (sent.length + 1) * 16 ≤ 140737488355328 := by have := HSL.out; omega
      go_wp2_with (at_builtin; refine wpList_append_own_at _ rfl (.tmp 113) (.tmp 118) 22 rfl w.heap.size 9 i0 (.string ByteArray.empty) 1 16 Try.underlying22 hi hz0 hz1 hzz2 rfl (by decide) (.slice p6 n6 c6) sent.length (sent.map Value.string) rfl (World.ownsRow.alloc HRW6.out _) ⟨w6.heap.size, 0, none⟩ 1 1 ([d].map Value.string) rfl rfl HN6.out (by intro u hu; simp at hu; rw [hu]; rfl) hcap1 hcap2 (HSZ6.out _) ?_; intro v9 w9 hown9 hgrow9 _ hat9; have KW9 : Hid (RowT w.heap.size w9 v9 (sent ++ [d])) := own_appT rfl rfl hown9; have K9 : Hid (Below w.heap.size w w9) := own_grow HRW6.out (HB6.out.alloc HB6.out.size _) hgrow9 (HSZ6.out _); have KC9 : Hid (Chg (fun g => (Value.slice p6 n6 c6).ownBlock = some g) w6 w9) := (Chg.ofBelow (HBX.out _) _).trans (Chg.grown hgrow9 (fun g hg => hg)); have HAT9 : Hid (∀ g, v9.ownBlock = some g → (Value.slice p6 n6 c6).ownBlock = some g ∨ w6.heap.size ≤ g) := (by intro g hg; rcases hat9 with e9 | e9; (exact Or.inl (e9 ▸ hg)); (rw [hg] at e9; injection e9 with e9; right; rw [e9]; simp)); obtain ⟨p9, N9, c9, hv9, _⟩ := own_shape KW9.out; subst hv9; clear hown9 hgrow9 hat9)
      have HT9 : Hid (Two L w.heap.size w9 X Y (aw WN WT (sent ++ [d])) (Ec.new WN WT) F6 G1) := ⟨L.chg HT6.out.x KC9.out (fun g h1 h2 => (HOF6.out g h2).1 h1), L.chg HT6.out.y KC9.out (fun g h1 h2 => (HOF6.out g h2).2 h1), HT6.out.off, HT6.out.lx, HT6.out.ly⟩
      have HOF9 : Hid (∀ g, (Value.slice p9 N9 c9).ownBlock = some g → ¬ F6 g ∧ ¬ G1 g) := fun g hg => by
        rcases HAT9.out g hg with e | e
        · exact HOF6.out g e
        · exact ⟨fun e9 => by have := L.lt HT6.out.x g e9; omega, fun e9 => by have := L.lt HT6.out.y g e9; omega⟩
      have HSS9 : Hid (∀ x ∈ sent ++ [d], x.size ≤ 200) := fun x hx => by
        rcases List.mem_append.1 hx with e | e
        · exact HSS.out x e
        · rw [List.mem_singleton.1 e]; exact HD200.out
      clear a0
      go_roundw
      case rel => exact ⟨i + 1, sent ++ [d], F6, by omega, by omega, by go_num, ⟨_, _, _, rfl⟩, by unfold Hid; rw [List.length_append]; have := HSL.out; simp; omega, HSS9, KW9, HT9, HOF9, K9⟩
      case measure => simp [intOf]; omega
  case false =>
  have HST0 : Hid (St L w.heap.size sent wr X Y (aw WN WT sent) (Ec.new WN WT) F G1 (.slice p6 n6 c6) 0) := ⟨HT.out, start_k HNE.out HSS.out, ⟨Nat.le_refl _, Nat.le_refl _⟩, Nat.le_refl _, HRW.out, by have := HSL.out; omega, HOF.out⟩
  have HWT : Hid ((aw WN WT sent).wait = WT) := rfl
  clear HTT HSL HSS HRW HT HOF HDK HDS HND HNE hin hi30 i0 hi hz0 hz1 hzz2
  obtain ⟨w7, rfl⟩ : ∃ w7, w7 = wr := ⟨_, rfl⟩
  obtain ⟨T, hT⟩ : ∃ T, T = Value.slice p6 n6 c6 := ⟨_, rfl⟩
  rw [← hT] at HST0
  have HTV : Hid (T = Value.slice p6 n6 c6) := hT
  obtain ⟨s0, hs0⟩ : ∃ s0, s0 = aw WN WT sent := ⟨_, rfl⟩
  obtain ⟨t0, ht0⟩ : ∃ t0, t0 = Ec.new WN WT := ⟨_, rfl⟩
  rw [← hs0] at HST0 HWT
  rw [← ht0] at HST0
  clear hT hs0 ht0
  have HFT : Hid (∀ (k : Nat) (W : World), k < nf → Below w.heap.size w W → ∃ b o, pf = some ⟨b, o, none⟩ ∧ W.cell? ⟨b, o + k, none⟩ = some (.int .i64 (Ft.getD k 0))) := fun k W hk hb => by
    rcases HFK.out with e | ⟨b, o, h1, h2⟩
    · have := HNF.out; rw [e] at this; simp at this; omega
    · exact ⟨b, o, h1, keep_cell hb (h2 k (by rw [HNF.out]; exact hk))⟩
  clear HFK
  go_wp2_with fail
  go_loopw [18, 19, 20] (fun v18 v19 v20 wr => ∃ (i ti : Nat) (und : List Fr) (sa sb : Ln) (F G U : Nat → Prop), i ≤ 40 ∧ v20 = .int .i64 i ∧ v19 = .int .i64 ti ∧ ti ≤ nf ∧ (∃ P N C, v18 = .slice P N C) ∧ Hid (und.length ≤ 16 * i) ∧ Hid (St L w.heap.size sent wr X Y sa sb F G T i) ∧ Hid (Und w.heap.size wr v18 und U) ∧ Hid (∀ f ∈ und, Un sent sa f) ∧ Hid (Ap F G T U) ∧ Hid (sa.wait = WT) ∧ Hid (Below w.heap.size w wr)) (fun _ _ vi _ => 40 - (intOf vi).toNat)
  case atStart => exact ⟨0, 0, [], s0, t0, F, G1, fun _ => False, by omega, rfl, rfl, by omega, ⟨_, _, _, rfl⟩, Nat.le_refl _, HST0, Und.nil _ _, (fun f hf => by cases hf), (fun g hg => hg.elim), HWT, HB⟩
  case round =>
  clear HST0 HWT HB
  obtain ⟨i, ti, und, sa, sb, F, G, U, hi40, rfl, rfl, hti, ⟨pu, nu, cu, rfl⟩, HUL, HS, HU, HUN, HAP, HWT, HB⟩ := hrel
  by_cases hlt : i < 40
  · have hltz : (i : Int) < 40 := by omega
    have C := out_a HS.out HB.out.size (by omega)
    have HSA : Hid (K sent sa sb) := HS.out.k
    go_wp2_with fail
    refine C.mono ?_
    rintro e w3 ⟨p3, n3, c3, F3, rfl, hfr, hs3, hc3, hf3⟩
    obtain ⟨hl3, hsrc⟩ := src_of hfr
    have HSRC : Hid (Src Try.prog 3 30 (.slice p3 n3 c3) n3 (flatF (outF sa)) w3) := hsrc
    have HL3 : Hid ((outF sa).length = n3) := hl3
    have HS3 : Hid (St L w.heap.size sent w3 X Y (outS sa) sb F3 G T i) := hs3
    have HU3 : Hid (Und w.heap.size w3 (.slice pu nu cu) und U) := HU.out.chg hc3 (fun g hg => (HAP.out g hg).1)
    have HAP3 : Hid (Ap F3 G T U) := HAP.out.x (fun g hg => (HU.out.lt g hg).2) hf3
    have HB3 : Hid (Below w.heap.size w w3) := hc3.below HS.out.two.lx HB.out HB.out.size
    have HUN3 : Hid (∀ f ∈ und ++ outF sa, Un sent (outS sa) f) := fun f hf => by
      rcases List.mem_append.1 hf with e | e
      · exact (HUN.out f e).out
      · exact HSA.out.out.2 f e
    have HUL3 : Hid ((und ++ outF sa).length ≤ 16 * (i + 1)) := by
      unfold Hid; rw [List.length_append]; have := HUL.out; have := out_len HSA.out; omega
    have hnn : und.length + n3 ≤ 1000000 := by have h9 := HUL3.out; rw [List.length_append, HL3.out] at h9; omega
    clear C hfr hs3 hc3 hf3 hl3 hsrc HS HU HAP HUN HUL HB
    go_wp2_with (at_builtin; refine wpList_app rfl (.tmp 126) (.tmp 127) rfl rfl HU3.out HB3.out.size _ rfl n3 (outF sa) HL3.out HSRC.out hnn ?_; intro v4 w4 U4 hu4 hc4 hf4 hsh4; obtain ⟨p4, n4, c4, rfl⟩ := hsh4; have HU4 : Hid (Und w.heap.size w4 (.slice p4 n4 c4) (und ++ outF sa) U4) := hu4; have HS4 : Hid (St L w.heap.size sent w4 X Y (outS sa) sb F3 G T i) := HS3.out.other hc4 HAP3.out; have HAP4 : Hid (Ap F3 G T U4) := HAP3.out.u HS3.out hf4; have HB4 : Hid (Below w.heap.size w w4) := hc4.below (fun g hg => (HU3.out.lt g hg).1) HB3.out HB3.out.size; clear hu4 hc4 hf4)
    obtain ⟨und4, hund4⟩ : ∃ und4, und4 = und ++ outF sa := ⟨_, rfl⟩
    rw [← hund4] at HUN3 HUL3 HU4
    have C := tick_a HS4.out HB4.out.size (by omega)
    clear hund4 HSRC HL3 hnn HS3 HU3 HAP3 HB3
    go_wp2_with fail
    refine C.mono ?_
    rintro e w5 ⟨v5, F5, rfl, hs5, hc5, hf5⟩
    obtain ⟨sa5, hsa5⟩ : ∃ sa5, sa5 = tick (outS sa) := ⟨_, rfl⟩
    have HWT5 : Hid (sa5.wait = WT) := by unfold Hid; rw [hsa5]; exact HWT.out
    have HUN5 : Hid (∀ f ∈ und4, Un sent sa5 f) := by rw [hsa5]; exact fun f hf => (HUN3.out f hf).tick
    rw [← hsa5] at hs5
    have HS5 : Hid (St L w.heap.size sent w5 X Y sa5 sb F5 G T (i + 1)) := hs5
    have HU5 : Hid (Und w.heap.size w5 (.slice p4 n4 c4) und4 U4) := HU4.out.chg hc5 (fun g hg => (HAP4.out g hg).1)
    have HAP5 : Hid (Ap F5 G T U4) := HAP4.out.x (fun g hg => (HU4.out.lt g hg).2) hf5
    have HB5 : Hid (Below w.heap.size w w5) := hc5.below HS4.out.two.lx HB4.out HB4.out.size
    clear C hs5 hc5 hf5 HS4 HU4 HAP4 HB4 HUN3 hsa5 HWT HSA
    go_wp2_with fail
    go_loopw [18, 19, 22] (fun v18 v19 v22 wr => ∃ (k ti : Nat) (und : List Fr) (sb : Ln) (G U : Nat → Prop), k ≤ 4 ∧ v22 = .int .i64 k ∧ v19 = .int .i64 ti ∧ ti ≤ nf ∧ (∃ P N C, v18 = .slice P N C) ∧ Hid (und.length ≤ 16 * (i + 1)) ∧ Hid (St L w.heap.size sent wr X Y sa5 sb F5 G T (i + 1)) ∧ Hid (Und w.heap.size wr v18 und U) ∧ Hid (∀ f ∈ und, Un sent sa5 f) ∧ Hid (Ap F5 G T U) ∧ Hid (Below w.heap.size w wr)) (fun _ _ vi _ => 4 - (intOf vi).toNat)
    case atStart => exact ⟨0, ti, und4, sb, G, U4, by omega, rfl, rfl, hti, ⟨_, _, _, rfl⟩, HUL3, HS5, HU5, HUN5, HAP5, HB5⟩
    case round =>
      clear HS5 HU5 HAP5 HB5 HUN5 HUL3 hti
      obtain ⟨k, ti, und, sb, G, U, hk4, rfl, rfl, hti, ⟨pu, nu, cu, rfl⟩, HUL, HS, HU, HUN, HAP, HB⟩ := hrel
      obtain ⟨ao, b, off, cap, hue, hub, hUb⟩ := HU.out
      injection hue with hu1 hu2 hu3
      subst hu1 hu3
      have HUB : Hid (UndB w.heap.size wr pu b off cu und ∧ ∀ g, U g ↔ (0 < cu ∧ g = b)) := ⟨hub, hUb⟩
      have HNU : Hid (und.length = nu) := hu2.symm
      clear hub hUb hu2 HU
      go_upto_region 26 with fail
      go_cut [143] from 131 to 175 (fun s9 wx => ∃ t : Bool, s9 = .bool t ∧ Hid (t = decide (k < 4 ∧ 0 < nu ∧ ti < nf)) ∧ wr = wx)
      case first =>
        by_cases h1 : k < 4
        · have h1z : (k : Int) < 4 := by omega
          by_cases h2 : 0 < nu
          · have h2z : (0 : Int) < nu := by omega
            by_cases h3 : ti < nf
            · have h3z : (ti : Int) < nf := by omega
              go_wp2_with fail
              go_meet
              case rel => exact ⟨true, by first | rfl | simp [h2], (decide_eq_true ⟨h1, h2, h3⟩).symm, rfl⟩
            · have h3z : ¬ (ti : Int) < nf := by omega
              have H2 : Hid (decide (k < 4 ∧ 0 < nu ∧ ti < nf) = false) := decide_eq_false (fun h => h3 h.2.2)
              go_wp2_with fail
              go_meet
              case rel => exact ⟨false, by first | rfl | simp [h2, h3], H2.out.symm, rfl⟩
          · have h2z : ¬ (0 : Int) < nu := by omega
            have H2 : Hid (decide (k < 4 ∧ 0 < nu ∧ ti < nf) = false) := decide_eq_false (fun h => h2 h.2.1)
            obtain rfl : nu = 0 := by omega
            go_wp2_with fail
            go_meet
            case rel => exact ⟨false, by first | rfl | simp, H2.out.symm, rfl⟩
        · have h1z : ¬ (k : Int) < 4 := by omega
          have H2 : Hid (decide (k < 4 ∧ 0 < nu ∧ ti < nf) = false) := decide_eq_false (fun h => h1 h.1)
          go_wp2_with fail
          go_meet
          case rel => exact ⟨false, rfl, H2.out.symm, rfl⟩
      case rest =>
      obtain ⟨tt, rfl, HTT, rfl⟩ := hcut
      cases tt
      case true =>
        obtain ⟨hlt1, hlt2, hlt3⟩ := of_decide_eq_true HTT.out.symm
        have hnuz : (0 : Int) < nu := by omega
        have hnu1z : (1 : Int) ≤ nu := by omega
        have htiz : (ti : Int) < nf := by omega
        obtain ⟨x, rest, hxr⟩ : ∃ x rest, und = x :: rest := by
          cases hun : und with
          | nil => have := HNU.out; rw [hun] at this; simp at this; omega
          | cons x rest => exact ⟨x, rest, rfl⟩
        subst hxr
        have hcu : 0 < cu := by have h9 := HUB.out.1.came.le; have := HNU.out; omega
        have hcn : nu ≤ cu := by have h9 := HUB.out.1.came.le; rw [HNU.out] at h9; exact h9
        have hpu := HUB.out.1.came.addr hcu
        subst hpu
        have hf0 := HUB.out.1.at (j := 0) (by simp)
        have HUX : Hid (Un sent sa5 x) := HUN.out x (List.mem_cons_self ..)
        obtain ⟨x1, x2, x3⟩ := x
        have y0 : wr.cell? ⟨b, off, none⟩ = some (.bool x1) := by have := hf0.1; rw [Nat.zero_mul, Nat.add_zero] at this; exact this
        have y1 : wr.cell? ⟨b, off + 1, none⟩ = some (.int .i64 x2) := by have := hf0.2.1; rw [Nat.zero_mul, Nat.add_zero] at this; exact this
        have y2 : wr.cell? ⟨b, off + 2, none⟩ = some (.string x3) := by have := hf0.2.2; rw [Nat.zero_mul, Nat.add_zero] at this; exact this
        have HTL : Hid (1 < cu → UndB w.heap.size wr (some ⟨b, off + 3, none⟩) b (off + 3) (cu - 1) rest) := fun h => HUB.out.1.tail h
        have HRL : Hid (rest.length + 1 = nu) := HNU.out
        obtain ⟨bf, of, rfl, hfc⟩ := HFT.out ti wr hlt3 HB.out
        obtain ⟨q, hq⟩ : ∃ q, q = Ft.getD ti 0 := ⟨_, rfl⟩
        rw [← hq] at hfc
        clear hf0 hq HTT
        have HBW : Hid (Below wr.heap.size wr (wr.alloc (.cells #[.bool x1, .int .i64 x2, .string x3] 33))) := (Below.refl _ _).alloc (Nat.le_refl _) _
        have HBX : Hid ((wr.alloc (.cells #[.bool x1, .int .i64 x2, .string x3] 33)).heap[wr.heap.size]? = some (.cells #[.bool x1, .int .i64 x2, .string x3] 33 (0, 0))) := heap_alloc_new wr _
        have hfc1 := keep_cell HBW.out hfc
        have HSa := HS.out.below HBW.out
        have HBa := bel HB.out HBW.out
        have HUBa : UndB w.heap.size (wr.alloc (.cells #[.bool x1, .int .i64 x2, .string x3] 33)) (some ⟨b, off, none⟩) b off cu ((x1, x2, x3) :: rest) := ⟨came_stay HUB.out.1.came (fun hc => HBW.out.block b (HUB.out.1.came.lt hc)) HBW.out.size, HUB.out.1.low, HUB.out.1.max⟩
        have HAPb : Hid (0 < cu → ¬ F5 b ∧ ¬ G b ∧ T.ownBlock ≠ some b) := fun h => HAP.out b ((HUB.out.2 b).2 ⟨h, rfl⟩)
        have HULx : Hid (((x1, x2, x3) :: rest).length ≤ 16 * (i + 1)) := HUL.out
        have HUNx : Hid (∀ f ∈ (x1, x2, x3) :: rest, Un sent sa5 f) := HUN.out
        have HULr : Hid (rest.length ≤ 16 * (i + 1)) := by unfold Hid; have := HUL.out; simp at this; omega
        have HUNr : Hid (∀ f ∈ rest, Un sent sa5 f) := un_tail HUN.out
        generalize hWa : wr.alloc (.cells #[.bool x1, .int .i64 x2, .string x3] 33) = Wa at HBW HBX hfc1 HSa HBa HUBa
        have HS1 : Hid (St L w.heap.size sent Wa X Y sa5 sb F5 G T (i + 1)) := HSa
        have HB1 : Hid (Below w.heap.size w Wa) := HBa
        have HUB1 : Hid (UndB w.heap.size Wa (some ⟨b, off, none⟩) b off cu ((x1, x2, x3) :: rest)) := HUBa
        have z0 := blk_cell HBX.out (i := 0) (u := .bool x1) rfl
        have z1 := blk_cell HBX.out (i := 1) (u := .int .i64 x2) rfl
        have z2 := blk_cell HBX.out (i := 2) (u := .string x3) rfl
        have HWS : Hid (wr.heap.size < Wa.heap.size) := by unfold Hid; rw [← hWa]; simp
        clear HSa HBa HUBa hfc HS HUB HTL HUL HUN HB
        by_cases hq0 : q = 0
        · have hq0b : (q == 0) = true := by simpa using hq0
          clear hq0
          by_cases hc1 : cu = 1
          · subst hc1
            obtain rfl : nu = 1 := by omega
            obtain rfl : rest = [] := List.eq_nil_of_length_eq_zero (by have := HRL.out; omega)
            go_wp2_with (rw [hWa])
            go_roundw
            case rel => exact ⟨k + 1, ti + 1, [], sb, G, fun _ => False, by omega, by go_num, by go_num, by omega, ⟨_, _, _, rfl⟩, Nat.zero_le _, HS1, Und.zero _ _ _, (fun f hf => by cases hf), (fun g hg => hg.elim), HB1⟩
            case measure => simp [intOf]; omega
          · have hc1z : ¬ (cu : Int) = 1 := by omega
            go_wp2_with (rw [hWa])
            go_roundw
            case rel => exact ⟨k + 1, ti + 1, rest, sb, G, fun g => 0 < cu - 1 ∧ g = b, by omega, by go_num, by go_num, by omega, ⟨_, _, _, rfl⟩, HULr, HS1, Und.tailed HUB1.out (by omega) HRL.out, HUNr, (fun g hg => by rw [hg.2]; exact HAPb.out hcu), HB1⟩
            case measure => simp [intOf]; omega
        · have hq0b : (q == 0) = false := by simpa using hq0
          by_cases hq1 : q = 1
          · have hq1b : (q == 1) = true := by simpa using hq1
            clear hq0 hq1
            have HBq : Hid (Below Wa.heap.size Wa (Wa.alloc (.cells #[.bool x1, .int .i64 x2, .string x3] 33)).drew) := ((Below.refl _ _).alloc (Nat.le_refl _) _).drew
            have HSq : Hid (St L w.heap.size sent (Wa.alloc (.cells #[.bool x1, .int .i64 x2, .string x3] 33)).drew X Y sa5 sb F5 G T (i + 1)) := HS1.out.below HBq.out
            have HBBq : Hid (Below w.heap.size w (Wa.alloc (.cells #[.bool x1, .int .i64 x2, .string x3] 33)).drew) := bel HB1.out HBq.out
            have HSRq : Hid (Src Try.prog 3 30 (.slice (some ⟨Wa.heap.size, 0, none⟩) 1 1) 1 (flatF [((x1, x2, x3) : Fr)]) (Wa.alloc (.cells #[.bool x1, .int .i64 x2, .string x3] 33)).drew) := Src.ofSlice _ Try.underlying30 ⟨Wa.heap.size, 0, none⟩ 1 1 _ rfl (fun j u hu => frame_new Wa (x1, x2, x3) 33 j u hu) (frames_one _)
            have HUNq : Hid (∀ f ∈ rest ++ [(x1, x2, x3)], Un sent sa5 f) := fun f hf => by
              rcases List.mem_append.1 hf with e | e
              · exact HUNr.out f e
              · rw [List.mem_singleton.1 e]; exact HUX.out
            have HULq : Hid ((rest ++ [((x1, x2, x3) : Fr)]).length ≤ 16 * (i + 1)) := by unfold Hid; rw [List.length_append]; have := HULx.out; simp at this ⊢; omega
            have HRN : Hid (rest.length + 1 ≤ 1000000) := by unfold Hid; have := HULr.out; omega
            by_cases hc1 : cu = 1
            · subst hc1
              obtain rfl : nu = 1 := by omega
              obtain rfl : rest = [] := List.eq_nil_of_length_eq_zero (by have := HRL.out; omega)
              have HUq : Hid (Und w.heap.size (Wa.alloc (.cells #[.bool x1, .int .i64 x2, .string x3] 33)).drew (.slice (some ⟨b, off, none⟩) 0 0) [] (fun _ => False)) := Und.zero _ _ _
              go_wp2_with (rw [hWa])
              go_region_law (first
                | (refine step_app (by rfl) (.tmp 165) (.tmp 167) (by rfl) (by rfl) HUq.out HBBq.out.size _ (by rfl) 1 [((x1, x2, x3) : Fr)] rfl HSRq.out HRN.out ?_; rintro v9 w9 U9 hu9 hc9 hf9 ⟨p9, n9, c9, rfl⟩; have HU9 : Hid (Und w.heap.size w9 (.slice p9 n9 c9) ([] ++ [((x1, x2, x3) : Fr)]) U9) := hu9; have HS9 : Hid (St L w.heap.size sent w9 X Y sa5 sb F5 G T (i + 1)) := HSq.out.other hc9 (fun g hg => hg.elim); have HAP9 : Hid (Ap F5 G T U9) := Ap.u (U := fun _ => False) (fun g hg => hg.elim) HSq.out hf9; have HB9 : Hid (Below w.heap.size w w9) := hc9.below (fun g hg => hg.elim) HBBq.out HBBq.out.size; clear hu9 hc9 hf9))
              all_goals
                go_wp2_with fail
                go_roundw
                case rel => exact ⟨k + 1, ti + 1, _, sb, G, U9, by omega, by go_num, by go_num, by omega, ⟨_, _, _, rfl⟩, HULq, HS9, HU9, HUNq, HAP9, HB9⟩
                case measure => simp [intOf]; omega
            · have hc1z : ¬ (cu : Int) = 1 := by omega
              have HUq : Hid (Und w.heap.size (Wa.alloc (.cells #[.bool x1, .int .i64 x2, .string x3] 33)).drew (.slice (some ⟨b, off + 3, none⟩) (nu - 1) (cu - 1)) rest (fun g => 0 < cu - 1 ∧ g = b)) := (Und.tailed HUB1.out (by omega) HRL.out).below HBq.out
              have HAPq : Hid (Ap F5 G T (fun g => 0 < cu - 1 ∧ g = b)) := fun g hg => by rw [hg.2]; exact HAPb.out hcu
              go_wp2_with (rw [hWa])
              go_region_law (first
                | (refine step_app (by rfl) (.tmp 165) (.tmp 167) (by rfl) (by rfl) HUq.out HBBq.out.size _ (by rfl) 1 [((x1, x2, x3) : Fr)] rfl HSRq.out HRN.out ?_; rintro v9 w9 U9 hu9 hc9 hf9 ⟨p9, n9, c9, rfl⟩; have HU9 : Hid (Und w.heap.size w9 (.slice p9 n9 c9) (rest ++ [((x1, x2, x3) : Fr)]) U9) := hu9; have HS9 : Hid (St L w.heap.size sent w9 X Y sa5 sb F5 G T (i + 1)) := HSq.out.other hc9 HAPq.out; have HAP9 : Hid (Ap F5 G T U9) := HAPq.out.u HSq.out hf9; have HB9 : Hid (Below w.heap.size w w9) := hc9.below (fun g hg => (HUq.out.lt g hg).1) HBBq.out HBBq.out.size; clear hu9 hc9 hf9))
              all_goals
                go_wp2_with fail
                go_roundw
                case rel => exact ⟨k + 1, ti + 1, _, sb, G, U9, by omega, by go_num, by go_num, by omega, ⟨_, _, _, rfl⟩, HULq, HS9, HU9, HUNq, HAP9, HB9⟩
                case measure => simp [intOf]; omega
          · have hq1b : (q == 1) = false := by simpa using hq1
            have C := hear_b HS1.out HB1.out.size x1 x2 x3 HUX.out
            by_cases hq2 : q = 2
            · have hq2b : (q == 2) = true := by simpa using hq2
              clear hq0 hq1 hq2
              go_wp2_with (rw [hWa])
              refine C.mono ?_
              rintro e w6 ⟨kk, G6, rfl, hs6, hc6, hf6⟩
              have HS6 : Hid (St L w.heap.size sent w6 X Y sa5 (hearS sb (x1, x2, x3)) F5 G6 T (i + 1)) := hs6
              have HB6 : Hid (Below w.heap.size w w6) := hc6.below HS1.out.two.ly HB1.out HB1.out.size
              have HU6 : Hid (Und w.heap.size w6 (.slice (some ⟨b, off, none⟩) nu cu) ((x1, x2, x3) :: rest) (fun g => 0 < cu ∧ g = b)) := by
                have h9 : Und w.heap.size Wa (.slice (some ⟨b, off, none⟩) nu cu) ((x1, x2, x3) :: rest) (fun g => 0 < cu ∧ g = b) := ⟨_, b, off, cu, by rw [← HRL.out]; rfl, HUB1.out, fun g => Iff.rfl⟩
                exact h9.chg hc6 (fun g hg => by rw [hg.2]; exact (HAPb.out hcu).2.1)
              have HAP6 : Hid (Ap F5 G6 T (fun g => 0 < cu ∧ g = b)) := by
                have h9 : Ap F5 G T (fun g => 0 < cu ∧ g = b) := fun g hg => by rw [hg.2]; exact HAPb.out hcu
                exact h9.y (fun g hg => by rw [hg.2]; exact HUB1.out.came.lt hcu) hf6
              obtain ⟨ev, hev⟩ : ∃ ev, ev = errV kk := ⟨_, rfl⟩
              rw [← hev]
              clear C hs6 hc6 hf6 hev z0 z1 z2 hfc1
              go_wp2_with fail
              go_roundw
              case rel => exact ⟨k + 1, ti + 1, (x1, x2, x3) :: rest, hearS sb (x1, x2, x3), G6, _, by omega, by go_num, by go_num, by omega, ⟨_, _, _, rfl⟩, HULx, HS6, HU6, HUNx, HAP6, HB6⟩
              case measure => simp [intOf]; omega
            · have hq2b : (q == 2) = false := by simpa using hq2
              clear hq0 hq1 hq2
              go_wp2_with (rw [hWa])
              refine C.mono ?_
              rintro e w6 ⟨kk, G6, rfl, hs6, hc6, hf6⟩
              have HS6 : Hid (St L w.heap.size sent w6 X Y sa5 (hearS sb (x1, x2, x3)) F5 G6 T (i + 1)) := hs6
              have HB6 : Hid (Below w.heap.size w w6) := hc6.below HS1.out.two.ly HB1.out HB1.out.size
              have HUB6 : Hid (UndB w.heap.size w6 (some ⟨b, off, none⟩) b off cu ((x1, x2, x3) :: rest)) := ⟨came_stay HUB1.out.came (fun hc => hc6.block b (HUB1.out.came.lt hc) (HAPb.out hcu).2.1) hc6.size, HUB1.out.low, HUB1.out.max⟩
              have HAP6 : Hid (Ap F5 G6 T (fun g => g = b)) := by
                have h9 : Ap F5 G T (fun g => g = b) := fun g hg => by rw [show g = b from hg]; exact HAPb.out hcu
                exact h9.y (fun g hg => by rw [show g = b from hg]; exact HUB1.out.came.lt hcu) hf6
              obtain ⟨ev, hev⟩ : ∃ ev, ev = errV kk := ⟨_, rfl⟩
              rw [← hev]
              clear C hs6 hc6 hf6 hev z0 z1 z2 hfc1
              by_cases hc1 : cu = 1
              · subst hc1
                obtain rfl : nu = 1 := by omega
                obtain rfl : rest = [] := List.eq_nil_of_length_eq_zero (by have := HRL.out; omega)
                go_wp2_with fail
                go_roundw
                case rel => exact ⟨k + 1, ti + 1, [], hearS sb (x1, x2, x3), G6, fun _ => False, by omega, by go_num, by go_num, by omega, ⟨_, _, _, rfl⟩, Nat.zero_le _, HS6, Und.zero _ _ _, (fun f hf => by cases hf), (fun g hg => hg.elim), HB6⟩
                case measure => simp [intOf]; omega
              · have hc1z : ¬ (cu : Int) = 1 := by omega
                go_wp2_with fail
                go_roundw
                case rel => exact ⟨k + 1, ti + 1, rest, hearS sb (x1, x2, x3), G6, fun g => 0 < cu - 1 ∧ g = b, by omega, by go_num, by go_num, by omega, ⟨_, _, _, rfl⟩, HULr, HS6, Und.tailed HUB6.out (by omega) HRL.out, HUNr, (fun g hg => HAP6.out g hg.2), HB6⟩
                case measure => simp [intOf]; omega
      case false =>
        have HU8 : Hid (Und w.heap.size wr (.slice pu nu cu) und U) := ⟨pu, b, off, cu, by rw [HNU.out], HUB.out.1, HUB.out.2⟩
        obtain ⟨w8, rfl⟩ : ∃ w8, w8 = wr := ⟨_, rfl⟩
        have C := out_bb HS.out HB.out.size
        have HAK : Hid (∀ f ∈ outF sb, f = (true, ((outS sb).got.length : Int), e0)) := out_acks HS.out.k.ball
        clear HTT HUB HNU
        go_wp2_with fail
        refine C.mono ?_
        rintro e w9 ⟨p9, n9, c9, G9, rfl, hfr, hs9, hc9, hf9⟩
        obtain ⟨q9, d9, e9, hfk, _⟩ := hfr
        injection e9 with e9a e9b e9c
        subst e9a e9c
        have HL9 : Hid ((outF sb).length = n9) := e9b.symm
        obtain ⟨Rr, hRr⟩ : ∃ Rr : Nat → Prop, Rr = fun g => New w8.heap.size w9 g ∧ ¬ G9 g := ⟨_, rfl⟩
        have HFK9 : Hid (FrsK Rr w9 p9 (outF sb)) := by unfold Hid; rw [hRr]; exact hfk
        have HRR : Hid (∀ g, Rr g → w8.heap.size ≤ g ∧ g < w9.heap.size ∧ ¬ G9 g) := by rw [hRr]; exact fun g hg => ⟨hg.1.1, hg.1.2, hg.2⟩
        have HRF : Hid (∀ g, Rr g → ¬ F5 g) := fun g hg e => by have := L.lt HS.out.two.x g e; have := (HRR.out g hg).1; omega
        obtain ⟨sb9, hsb9⟩ : ∃ sb9, sb9 = outS sb := ⟨_, rfl⟩
        rw [← hsb9] at hs9 HAK
        have HS9 : Hid (St L w.heap.size sent w9 X Y sa5 sb9 F5 G9 T (i + 1)) := hs9
        have HU9 : Hid (Und w.heap.size w9 (.slice pu nu cu) und U) := HU8.out.chg hc9 (fun g hg => (HAP.out g hg).2.1)
        have HAP9 : Hid (Ap F5 G9 T U) := HAP.out.y (fun g hg => (HU8.out.lt g hg).2) hf9
        have HB9 : Hid (Below w.heap.size w w9) := hc9.below HS.out.two.ly HB.out HB.out.size
        have hn9m : n9 ≤ 1000000 := by
          have h9 := (out_b HS.out.k.ball).2.2
          have h8 := HL9.out
          rw [h9] at h8
          split at h8 <;> simp at h8 <;> omega
        clear C hs9 hc9 hf9 hfk e9b hRr hsb9 HS HU8 HAP HB
        obtain ⟨bk, hbk⟩ : ∃ bk, bk = outF sb := ⟨_, rfl⟩
        rw [← hbk] at HL9 HFK9 HAK
        clear hbk
        go_wp2_with fail
        go_loopw [19, 25] (fun v19 v25 wr => ∃ (k ti : Nat) (sa : Ln) (F : Nat → Prop), k ≤ n9 ∧ v25 = .int .i64 k ∧ v19 = .int .i64 ti ∧ ti ≤ nf ∧ Hid (St L w.heap.size sent wr X Y sa sb9 F G9 T (i + 1)) ∧ Hid (FrsK Rr wr p9 bk) ∧ Hid (∀ g, Rr g → ¬ F g) ∧ Hid (Und w.heap.size wr (.slice pu nu cu) und U) ∧ Hid (∀ f ∈ und, Un sent sa f) ∧ Hid (Ap F G9 T U) ∧ Hid (sa.wait = WT) ∧ Hid (w9.heap.size ≤ wr.heap.size) ∧ Hid (Below w.heap.size w wr)) (fun _ vi _ => n9 - (intOf vi).toNat)
        case atStart => exact ⟨0, ti, sa5, F5, by omega, rfl, rfl, hti, HS9, HFK9, HRF, HU9, HUN, HAP9, HWT5, Nat.le_refl _, HB9⟩
        case round =>
          clear HS9 HFK9 HRF HU9 HUN HAP9 HWT5 HB9 hti
          obtain ⟨k, ti, sa, F, hkn, rfl, rfl, hti, HS, HFK, HRF, HU, HUN, HAP, HWT, HZ, HB⟩ := hrel
          by_cases hk9 : k < n9
          · have hk9z : (k : Int) < n9 := by omega
            go_upto_region 43 with fail
            go_cut [194] from 184 to 203 (fun s9 wx => ∃ t : Bool, s9 = .bool t ∧ Hid (t = true → ti < nf) ∧ wr = wx)
            case first =>
              by_cases h1 : ti < nf
              · have h1z : (ti : Int) < nf := by omega
                obtain ⟨bf, of, rfl, hfc⟩ := HFT.out ti wr h1 HB.out
                obtain ⟨q, hq⟩ : ∃ q, q = Ft.getD ti 0 := ⟨_, rfl⟩
                rw [← hq] at hfc
                have H1 : Hid (ti < nf) := h1
                clear hq
                go_wp2_with fail
                go_meet
                case rel => exact ⟨_, rfl, fun _ => H1.out, rfl⟩
              · have h1z : ¬ (ti : Int) < nf := by omega
                go_wp2_with fail
                go_meet
                case rel => exact ⟨false, rfl, (fun h => by cases h), rfl⟩
            case rest =>
            obtain ⟨tt, rfl, HTT, rfl⟩ := hcut
            cases tt
            case true =>
              have htn := HTT.out rfl
              go_wp2_with fail
              go_roundw
              case rel => exact ⟨k + 1, ti + 1, sa, F, by omega, by go_num, by go_num, by omega, HS, HFK, HRF, HU, HUN, HAP, HWT, HZ, HB⟩
              case measure => simp [intOf]; omega
            case false =>
              obtain ⟨bo, oo, rfl, hRb, hc⟩ := HFK.out.some (by intro e9; have := HL9.out; rw [e9] at this; simp at this; omega)
              have hkl : k < bk.length := by rw [HL9.out]; exact hk9
              have hcj := hc k hkl
              have hel : bk.getD k fz = (true, (sb9.got.length : Int), e0) := HAK.out _ (by rw [List.getD_eq_getElem?_getD, List.getElem?_eq_getElem hkl]; exact List.getElem_mem _)
              rw [hel] at hcj
              obtain ⟨qa, hqa⟩ : ∃ qa : Int, qa = (sb9.got.length : Int) := ⟨_, rfl⟩
              rw [← hqa] at hcj
              obtain ⟨f0, f1, f2⟩ := hcj
              have f0' : wr.cell? ⟨bo, oo + k * 3, none⟩ = some (.bool true) := f0
              have f1' : wr.cell? ⟨bo, oo + k * 3 + 1, none⟩ = some (.int .i64 qa) := f1
              have f2' : wr.cell? ⟨bo, oo + k * 3 + 2, none⟩ = some (.string e0) := f2
              have C := hear_a HS.out HB.out.size (by omega) qa hqa
              clear hc hkl hel f0 f1 f2 hqa
              go_wp2_with fail
              refine C.mono ?_
              rintro e w10 ⟨F10, rfl, hs10, hc10, hf10⟩
              have HS10 : Hid (St L w.heap.size sent w10 X Y (hearS sa (true, qa, e0)) sb9 F10 G9 T (i + 1)) := hs10
              have HB10 : Hid (Below w.heap.size w w10) := hc10.below HS.out.two.lx HB.out HB.out.size
              have HFK10 : Hid (FrsK Rr w10 (some ⟨bo, oo, none⟩) bk) := HFK.out.stay (hc10.stay fun g hg => ⟨Nat.lt_of_lt_of_le (HRR.out g hg).2.1 HZ.out, HRF.out g hg⟩)
              have HRF10 : Hid (∀ g, Rr g → ¬ F10 g) := fun g hg e9 => by
                rcases hf10 g e9 with e9 | e9
                · exact HRF.out g hg e9
                · have := (HRR.out g hg).2.1; have := HZ.out; omega
              have HU10 : Hid (Und w.heap.size w10 (.slice pu nu cu) und U) := HU.out.chg hc10 (fun g hg => (HAP.out g hg).1)
              have HAP10 : Hid (Ap F10 G9 T U) := HAP.out.x (fun g hg => (HU.out.lt g hg).2) hf10
              have HUN10 : Hid (∀ f ∈ und, Un sent (hearS sa (true, qa, e0)) f) := fun f hf => (HUN.out f hf).hear
              have HWT10 : Hid ((hearS sa (true, qa, e0)).wait = WT) := by unfold Hid; rw [hear_wait]; exact HWT.out
              have HZ10 : Hid (w9.heap.size ≤ w10.heap.size) := Nat.le_trans HZ.out hc10.size
              clear C hs10 hc10 hf10 f0' f1' f2'
              go_wp2_with fail
              go_roundw
              case rel => exact ⟨k + 1, ti, hearS sa (true, qa, e0), F10, by omega, by go_num, rfl, hti, HS10, HFK10, HRF10, HU10, HUN10, HAP10, HWT10, HZ10, HB10⟩
              case measure => simp [intOf]; omega
          · obtain rfl : k = n9 := by omega
            have hk9z : ¬ (k : Int) < k := by omega
            obtain ⟨w10, rfl⟩ : ∃ w10, w10 = wr := ⟨_, rfl⟩
            have C := got_b HS.out
            obtain ⟨hbg1, hbg2⟩ := HS.out.k.begins
            have HBG : Hid (sb9.got = sent.take sb9.got.length ∧ sb9.got.length ≤ sent.length) := ⟨hbg2, hbg1⟩
            clear hbg1 hbg2 HFK HRF HRR HAK HL9
            go_wp2_with fail
            refine C.mono ?_
            rintro e w11 ⟨p11, n11, c11, rfl, ht11, hb11⟩
            have hn11 : sb9.got.length = n11 := by
              obtain ⟨_, _, e6, _⟩ := ht11
              injection e6 with _ e6 _
              exact e6.symm
            have HS11 : Hid (St L w.heap.size sent w11 X Y sa sb9 F G9 T (i + 1)) := HS.out.below hb11
            have HU11 : Hid (Und w.heap.size w11 (.slice pu nu cu) und U) := HU.out.below hb11
            have HB11 : Hid (Below w.heap.size w w11) := bel HB.out hb11
            have hrow := HS11.out.row
            rw [HTV.out] at hrow
            obtain ⟨r1, r2, r3⟩ := take_own hrow (k := n11) (by rw [← hn11]; exact HBG.out.2)
            have hle : n11 ≤ n6 := by rw [r1, ← hn11]; exact HBG.out.2
            have hlez : ¬ (n6 : Int) < n11 := by omega
            have hlec : (n11 : Int) ≤ c6 := by omega
            have C2 := texts_any _ _ _ _ w11 _ _ ht11 r3 (by have := HS11.out.few; have := HBG.out.2; omega)
            rw [decide_eq_true (show sb9.got = sent.take n11 by rw [← hn11]; exact HBG.out.1)] at C2
            have HSP : Hid (p6 = none → n6 = 0 ∧ c6 = 0) := fun hp => by
              rcases hrow.2 with ⟨e, e0⟩ | ⟨g, cap, cur, e, _⟩
              · injection e with _ e2 e3; exact ⟨e2, e3⟩
              · rw [hp] at e; injection e with e; cases e
            clear C ht11 hb11 hrow r1 r2 r3 HS HU HB hn11 HBG
            rcases (show p6 = none ∨ (∃ ad, p6 = some ad ∧ c6 = 0) ∨ (∃ ad, p6 = some ad ∧ ¬ c6 = 0) by
              cases p6 with
              | none => exact Or.inl rfl
              | some ad => by_cases h : c6 = 0; exact Or.inr (Or.inl ⟨ad, rfl, h⟩); exact Or.inr (Or.inr ⟨ad, rfl, h⟩)) with rfl | ⟨ad, rfl, rfl⟩ | ⟨ad, rfl, hc6⟩
            · obtain ⟨rfl, rfl⟩ := HSP.out rfl
              obtain rfl : n11 = 0 := by omega
              go_wp2_with fail
              refine C2.mono ?_
              rintro e w12 ⟨rfl, hb12⟩
              have HS12 : Hid (St L w.heap.size sent w12 X Y sa sb9 F G9 T (i + 1)) := HS11.out.below hb12
              have HU12 : Hid (Und w.heap.size w12 (.slice pu nu cu) und U) := HU11.out.below hb12
              have HB12 : Hid (Below w.heap.size w w12) := bel HB11.out hb12
              clear C2 hb12
              go_wp2_with fail
              go_roundw
              case rel => exact ⟨i + 1, ti, und, sa, sb9, F, G9, U, by omega, by go_num, rfl, hti, ⟨_, _, _, rfl⟩, HUL, HS12, HU12, HUN, HAP, HWT, HB12⟩
              case measure => simp [intOf]; omega
            · obtain rfl : n11 = 0 := by omega
              go_wp2_with fail
              refine C2.mono ?_
              rintro e w12 ⟨rfl, hb12⟩
              have HS12 : Hid (St L w.heap.size sent w12 X Y sa sb9 F G9 T (i + 1)) := HS11.out.below hb12
              have HU12 : Hid (Und w.heap.size w12 (.slice pu nu cu) und U) := HU11.out.below hb12
              have HB12 : Hid (Below w.heap.size w w12) := bel HB11.out hb12
              clear C2 hb12
              go_wp2_with fail
              go_roundw
              case rel => exact ⟨i + 1, ti, und, sa, sb9, F, G9, U, by omega, by go_num, rfl, hti, ⟨_, _, _, rfl⟩, HUL, HS12, HU12, HUN, HAP, HWT, HB12⟩
              case measure => simp [intOf]; omega
            · go_wp2_with fail
              refine C2.mono ?_
              rintro e w12 ⟨rfl, hb12⟩
              have HS12 : Hid (St L w.heap.size sent w12 X Y sa sb9 F G9 T (i + 1)) := HS11.out.below hb12
              have HU12 : Hid (Und w.heap.size w12 (.slice pu nu cu) und U) := HU11.out.below hb12
              have HB12 : Hid (Below w.heap.size w w12) := bel HB11.out hb12
              clear C2 hb12
              go_wp2_with fail
              go_roundw
              case rel => exact ⟨i + 1, ti, und, sa, sb9, F, G9, U, by omega, by go_num, rfl, hti, ⟨_, _, _, rfl⟩, HUL, HS12, HU12, HUN, HAP, HWT, HB12⟩
              case measure => simp [intOf]; omega
  · obtain rfl : i = 40 := by omega
    have hltz : ¬ ((40 : Nat) : Int) < 40 := by omega
    obtain ⟨w8, rfl⟩ : ∃ w8, w8 = wr := ⟨_, rfl⟩
    have HPH : Hid (phi sa sb ≤ 30 * (WT + 2)) := by unfold Hid; rw [← HWT.out]; exact phi_le HS.out.k HS.out.few
    obtain ⟨BD, hBD⟩ : ∃ BD : Nat, BD = 30 * (WT + 2) := ⟨_, rfl⟩
    rw [← hBD] at HPH
    have hBDz : (30 : Int) * ((WT : Int) + 2) = (BD : Int) := by omega
    have hBD9 : BD ≤ 660 := by omega
    clear hBD HUL HU HUN HAP HFT HNF
    go_wp2_with fail
    go_loopw [28] (fun v28 wr => ∃ (j : Nat) (sa sb : Ln) (F G : Nat → Prop), j ≤ BD ∧ v28 = .int .i64 j ∧ Hid (j + phi sa sb ≤ BD) ∧ Hid (St L w.heap.size sent wr X Y sa sb F G T (40 + j)) ∧ Hid (Below w.heap.size w wr)) (fun vi _ => BD - (intOf vi).toNat)
    case atStart => exact ⟨0, sa, sb, F, G, by omega, rfl, by unfold Hid; have := HPH.out; omega, HS, HB⟩
    case round =>
    clear HPH HS HB HWT
    obtain ⟨j, sa, sb, F, G, hj, rfl, HPH, HS, HB⟩ := hrel
    go_upto_region 54 with fail
    go_cut [228] from 219 to 228 (fun s9 wx => ∃ t : Bool, s9 = .bool t ∧ Hid (t = decide (0 < Ec.left sa)) ∧ Hid (Below wr.heap.size wr wx))
    case first =>
      by_cases h1 : j < BD
      · have h1z : (j : Int) < BD := by omega
        have C := left_a HS.out (by omega)
        obtain ⟨lf, hlf⟩ : ∃ lf : Nat, lf = Ec.left sa := ⟨_, rfl⟩
        rw [← hlf] at C
        have HLF : Hid (decide (0 < Ec.left sa) = decide (0 < lf)) := by unfold Hid; rw [hlf]
        clear hlf
        go_wp2_with fail
        refine C.mono ?_
        rintro e w9 ⟨rfl, hb9⟩
        have HB9 : Hid (Below wr.heap.size wr w9) := hb9
        clear C hb9
        by_cases h2 : 0 < lf
        · have h2z : (0 : Int) < lf := by omega
          go_wp2_with fail
          go_meet
          case rel => exact ⟨true, by first | rfl | simp [h2], by unfold Hid; rw [HLF.out, decide_eq_true h2], HB9⟩
        · have h2z : ¬ (0 : Int) < lf := by omega
          obtain rfl : lf = 0 := by omega
          go_wp2_with fail
          go_meet
          case rel => exact ⟨false, by first | rfl | simp, by unfold Hid; rw [HLF.out]; rfl, HB9⟩
      · have h1z : ¬ (j : Int) < BD := by omega
        have HLF : Hid (decide (0 < Ec.left sa) = false) := by
          refine decide_eq_false (fun h => ?_)
          have h8 := phi_pos HS.out.k h
          have h9 := HPH.out
          omega
        go_wp2_with fail
        go_meet
        case rel => exact ⟨false, rfl, HLF.out.symm, Below.refl _ _⟩
    case rest =>
    obtain ⟨tt, rfl, HTT, HBc⟩ := hcut
    have HSc : Hid (St L w.heap.size sent wc X Y sa sb F G T (40 + j)) := HS.out.below HBc.out
    have HBB : Hid (Below w.heap.size w wc) := bel HB.out HBc.out
    obtain ⟨w9, rfl⟩ : ∃ w9, w9 = wc := ⟨_, rfl⟩
    clear HS HB HBc
    cases tt
    case true =>
      have hlp9 : 0 < Ec.left sa := of_decide_eq_true HTT.out.symm
      have HLP : Hid (0 < Ec.left sa) := hlp9
      clear hlp9
      have HGO := go HSc.out.k HLP.out
      have HPP : Hid (j + 1 + phi (a3 sa sb) (b2 sa sb) ≤ BD) := by unfold Hid; have := HPH.out; have := HGO.2; omega
      have hj1 : j + 1 ≤ BD := by have := HPP.out; omega
      have HUA : Hid (∀ f ∈ outF sa, Un sent (outS sa) f) := HSc.out.k.out.2
      have C := out_a HSc.out HBB.out.size (by omega)
      have HOL : Hid ((outF sa).length ≤ 16) := out_len HSc.out.k
      clear HTT HGO HPH HLP
      go_wp2_with fail
      refine C.mono ?_
      rintro e w10 ⟨p9, n9, c9, F9, rfl, hfr, hs9, hc9, hf9⟩
      obtain ⟨q9, d9, e9, hfk, _⟩ := hfr
      injection e9 with e9a e9b e9c
      subst e9a e9c
      have HL9 : Hid ((outF sa).length = n9) := e9b.symm
      have hn9m : n9 ≤ 16 := by have := HOL.out; have := HL9.out; omega
      obtain ⟨Rr, hRr⟩ : ∃ Rr : Nat → Prop, Rr = fun g => New w9.heap.size w10 g ∧ ¬ F9 g := ⟨_, rfl⟩
      have HFK9 : Hid (FrsK Rr w10 p9 (outF sa)) := by unfold Hid; rw [hRr]; exact hfk
      have HRR : Hid (∀ g, Rr g → w9.heap.size ≤ g ∧ g < w10.heap.size ∧ ¬ F9 g) := by rw [hRr]; exact fun g hg => ⟨hg.1.1, hg.1.2, hg.2⟩
      have HRG : Hid (∀ g, Rr g → ¬ G g) := fun g hg e => by have := L.lt HSc.out.two.y g e; have := (HRR.out g hg).1; omega
      have HS10 : Hid (St L w.heap.size sent w10 X Y (outS sa) (((outF sa).take 0).foldl hearS sb) F9 G T (40 + j)) := hs9
      have HB10 : Hid (Below w.heap.size w w10) := hc9.below HSc.out.two.lx HBB.out HBB.out.size
      obtain ⟨fs, hfs⟩ : ∃ fs, fs = outF sa := ⟨_, rfl⟩
      have HFS : Hid (fs = outF sa) := hfs
      rw [← hfs] at HL9 HFK9 HUA HS10
      clear C hs9 hc9 hf9 hfk e9b hRr hfs HSc HBB HOL
      go_wp2_with fail
      go_loopw [30] (fun vi wr => ∃ (k : Nat) (G : Nat → Prop), k ≤ n9 ∧ vi = .int .i64 k ∧ Hid (St L w.heap.size sent wr X Y (outS sa) ((fs.take k).foldl hearS sb) F9 G T (40 + j)) ∧ Hid (FrsK Rr wr p9 fs) ∧ Hid (∀ g, Rr g → ¬ G g) ∧ Hid (w10.heap.size ≤ wr.heap.size) ∧ Hid (Below w.heap.size w wr)) (fun vi _ => n9 - (intOf vi).toNat)
      case atStart => exact ⟨0, G, by omega, rfl, HS10, HFK9, HRG, Nat.le_refl _, HB10⟩
      case round =>
      clear HS10 HFK9 HRG HB10
      obtain ⟨k, G, hkn, rfl, HS, HFK, HRG, HZ, HB⟩ := hrel
      by_cases hk9 : k < n9
      · have hk9z : (k : Int) < n9 := by omega
        have hkl : k < fs.length := by rw [HL9.out]; exact hk9
        obtain ⟨bo, oo, rfl, hRb, hc⟩ := HFK.out.some (by intro e9; rw [e9] at hkl; simp at hkl)
        have hcj := hc k hkl
        have hux := HUA.out (fs.getD k fz) (by rw [List.getD_eq_getElem?_getD, List.getElem?_eq_getElem hkl]; exact List.getElem_mem _)
        have hnx : (fs.take (k + 1)).foldl hearS sb = hearS ((fs.take k).foldl hearS sb) (fs.getD k fz) := by
          rw [List.take_add_one, List.getD_eq_getElem?_getD, List.getElem?_eq_getElem hkl, List.foldl_append]; rfl
        obtain ⟨x, hx⟩ : ∃ x, x = fs.getD k fz := ⟨_, rfl⟩
        rw [← hx] at hcj hux hnx
        obtain ⟨x1, x2, x3⟩ := x
        obtain ⟨f0, f1, f2⟩ := hcj
        have f0' : wr.cell? ⟨bo, oo + k * 3, none⟩ = some (.bool x1) := f0
        have f1' : wr.cell? ⟨bo, oo + k * 3 + 1, none⟩ = some (.int .i64 x2) := f1
        have f2' : wr.cell? ⟨bo, oo + k * 3 + 2, none⟩ = some (.string x3) := f2
        have HNX : Hid ((fs.take (k + 1)).foldl hearS sb = hearS ((fs.take k).foldl hearS sb) (x1, x2, x3)) := hnx
        have C := hear_b HS.out HB.out.size x1 x2 x3 hux
        clear hc hkl hux hnx hx f0 f1 f2
        go_wp2_with fail
        refine C.mono ?_
        rintro e w11 ⟨kk, G6, rfl, hs6, hc6, hf6⟩
        have HS6 : Hid (St L w.heap.size sent w11 X Y (outS sa) ((fs.take (k + 1)).foldl hearS sb) F9 G6 T (40 + j)) := by unfold Hid; rw [HNX.out]; exact hs6
        have HB6 : Hid (Below w.heap.size w w11) := hc6.below HS.out.two.ly HB.out HB.out.size
        have HFK6 : Hid (FrsK Rr w11 (some ⟨bo, oo, none⟩) fs) := HFK.out.stay (hc6.stay fun g hg => ⟨Nat.lt_of_lt_of_le (HRR.out g hg).2.1 HZ.out, HRG.out g hg⟩)
        have HRG6 : Hid (∀ g, Rr g → ¬ G6 g) := fun g hg e9 => by
          rcases hf6 g e9 with e9 | e9
          · exact HRG.out g hg e9
          · have := (HRR.out g hg).2.1; have := HZ.out; omega
        have HZ6 : Hid (w10.heap.size ≤ w11.heap.size) := Nat.le_trans HZ.out hc6.size
        obtain ⟨ev, hev⟩ : ∃ ev, ev = errV kk := ⟨_, rfl⟩
        rw [← hev]
        clear C hs6 hc6 hf6 f0' f1' f2' hev
        go_wp2_with fail
        go_roundw
        case rel => exact ⟨k + 1, G6, by omega, by go_num, HS6, HFK6, HRG6, HZ6, HB6⟩
        case measure => simp [intOf]; omega
      · obtain rfl : k = n9 := by omega
        have hk9z : ¬ (k : Int) < k := by omega
        obtain ⟨w11, rfl⟩ : ∃ w11, w11 = wr := ⟨_, rfl⟩
        have hb1 : (fs.take k).foldl hearS sb = b1 sa sb := by unfold b1; rw [← HFS.out, List.take_of_length_le (by rw [HL9.out]; exact Nat.le_refl _)]
        rw [hb1] at HS
        have C := out_bb HS.out HB.out.size
        have HAK : Hid (∀ f ∈ outF (b1 sa sb), f = (true, ((b2 sa sb).got.length : Int), e0)) := out_acks HS.out.k.ball
        have HBL : Hid ((outF (b1 sa sb)).length ≤ 1) := by
          unfold Hid; rw [(out_b HS.out.k.ball).2.2]; split <;> simp
        clear HFK HRG HZ HRR HUA HL9 hb1
        go_wp2_with fail
        refine C.mono ?_
        rintro e w12 ⟨p8, n8, c8, G8, rfl, hfr, hs8, hc8, hf8⟩
        obtain ⟨q8, d8, e8, hfk, _⟩ := hfr
        injection e8 with e8a e8b e8c
        subst e8a e8c
        have HL8 : Hid ((outF (b1 sa sb)).length = n8) := e8b.symm
        have hn8m : n8 ≤ 1 := by have := HBL.out; have := HL8.out; omega
        obtain ⟨Rr, hRr⟩ : ∃ Rr : Nat → Prop, Rr = fun g => New w11.heap.size w12 g ∧ ¬ G8 g := ⟨_, rfl⟩
        have HFK8 : Hid (FrsK Rr w12 p8 (outF (b1 sa sb))) := by unfold Hid; rw [hRr]; exact hfk
        have HRR : Hid (∀ g, Rr g → w11.heap.size ≤ g ∧ g < w12.heap.size) := by rw [hRr]; exact fun g hg => ⟨hg.1.1, hg.1.2⟩
        have HRF : Hid (∀ g, Rr g → ¬ F9 g) := fun g hg e => by have := L.lt HS.out.two.x g e; have := (HRR.out g hg).1; omega
        obtain ⟨bs, hbs⟩ : ∃ bs, bs = outF (b1 sa sb) := ⟨_, rfl⟩
        have HBS : Hid (bs = outF (b1 sa sb)) := hbs
        have HS12 : Hid (St L w.heap.size sent w12 X Y ((bs.take 0).foldl hearS (outS sa)) (b2 sa sb) F9 G8 T (40 + j)) := hs8
        have HB12 : Hid (Below w.heap.size w w12) := hc8.below HS.out.two.ly HB.out HB.out.size
        rw [← hbs] at HL8 HFK8 HAK
        clear C hs8 hc8 hf8 hfk e8b hRr hbs HS HB HBL
        go_wp2_with fail
        go_loopw [32] (fun vi wr => ∃ (k : Nat) (F : Nat → Prop), k ≤ n8 ∧ vi = .int .i64 k ∧ Hid (St L w.heap.size sent wr X Y ((bs.take k).foldl hearS (outS sa)) (b2 sa sb) F G8 T (40 + j)) ∧ Hid (FrsK Rr wr p8 bs) ∧ Hid (∀ g, Rr g → ¬ F g) ∧ Hid (w12.heap.size ≤ wr.heap.size) ∧ Hid (Below w.heap.size w wr)) (fun vi _ => n8 - (intOf vi).toNat)
        case atStart => exact ⟨0, F9, by omega, rfl, HS12, HFK8, HRF, Nat.le_refl _, HB12⟩
        case round =>
        clear HS12 HFK8 HRF HB12
        obtain ⟨k2, F, hkn2, rfl, HS, HFK, HRF, HZ, HB⟩ := hrel
        by_cases hk8 : k2 < n8
        · have hk8z : (k2 : Int) < n8 := by omega
          have hkl : k2 < bs.length := by rw [HL8.out]; exact hk8
          obtain ⟨bo, oo, rfl, hRb, hc⟩ := HFK.out.some (by intro e9; rw [e9] at hkl; simp at hkl)
          have hcj := hc k2 hkl
          have hel : bs.getD k2 fz = (true, ((b2 sa sb).got.length : Int), e0) := HAK.out _ (by rw [List.getD_eq_getElem?_getD, List.getElem?_eq_getElem hkl]; exact List.getElem_mem _)
          have hnx : (bs.take (k2 + 1)).foldl hearS (outS sa) = hearS ((bs.take k2).foldl hearS (outS sa)) (bs.getD k2 fz) := by
            rw [List.take_add_one, List.getD_eq_getElem?_getD, List.getElem?_eq_getElem hkl, List.foldl_append]; rfl
          rw [hel] at hcj hnx
          obtain ⟨qa, hqa⟩ : ∃ qa : Int, qa = ((b2 sa sb).got.length : Int) := ⟨_, rfl⟩
          rw [← hqa] at hcj hnx
          obtain ⟨f0, f1, f2⟩ := hcj
          have f0' : wr.cell? ⟨bo, oo + k2 * 3, none⟩ = some (.bool true) := f0
          have f1' : wr.cell? ⟨bo, oo + k2 * 3 + 1, none⟩ = some (.int .i64 qa) := f1
          have f2' : wr.cell? ⟨bo, oo + k2 * 3 + 2, none⟩ = some (.string e0) := f2
          have HNX : Hid ((bs.take (k2 + 1)).foldl hearS (outS sa) = hearS ((bs.take k2).foldl hearS (outS sa)) (true, qa, e0)) := hnx
          have C := hear_a HS.out HB.out.size (by omega) qa hqa
          clear hc hkl hel hnx f0 f1 f2 hqa
          go_wp2_with fail
          refine C.mono ?_
          rintro e w13 ⟨F10, rfl, hs10, hc10, hf10⟩
          have HS10 : Hid (St L w.heap.size sent w13 X Y ((bs.take (k2 + 1)).foldl hearS (outS sa)) (b2 sa sb) F10 G8 T (40 + j)) := by unfold Hid; rw [HNX.out]; exact hs10
          have HB10 : Hid (Below w.heap.size w w13) := hc10.below HS.out.two.lx HB.out HB.out.size
          have HFK10 : Hid (FrsK Rr w13 (some ⟨bo, oo, none⟩) bs) := HFK.out.stay (hc10.stay fun g hg => ⟨Nat.lt_of_lt_of_le (HRR.out g hg).2 HZ.out, HRF.out g hg⟩)
          have HRF10 : Hid (∀ g, Rr g → ¬ F10 g) := fun g hg e9 => by
            rcases hf10 g e9 with e9 | e9
            · exact HRF.out g hg e9
            · have := (HRR.out g hg).2; have := HZ.out; omega
          have HZ10 : Hid (w12.heap.size ≤ w13.heap.size) := Nat.le_trans HZ.out hc10.size
          clear C hs10 hc10 hf10 f0' f1' f2'
          go_wp2_with fail
          go_roundw
          case rel => exact ⟨k2 + 1, F10, by omega, by go_num, HS10, HFK10, HRF10, HZ10, HB10⟩
          case measure => simp [intOf]; omega
        · obtain rfl : k2 = n8 := by omega
          have hk8z : ¬ (k2 : Int) < k2 := by omega
          obtain ⟨w13, rfl⟩ : ∃ w13, w13 = wr := ⟨_, rfl⟩
          have ha2 : (bs.take k2).foldl hearS (outS sa) = a2 sa sb := by unfold a2; rw [← HBS.out, List.take_of_length_le (by rw [HL8.out]; exact Nat.le_refl _)]
          rw [ha2] at HS
          have C := tick_a HS.out HB.out.size (by omega)
          clear HFK HRF HZ HRR HAK HL8 ha2
          go_wp2_with fail
          refine C.mono ?_
          rintro e w14 ⟨v14, F14, rfl, hs14, hc14, hf14⟩
          have HS14 : Hid (St L w.heap.size sent w14 X Y (a3 sa sb) (b2 sa sb) F14 G8 T (40 + (j + 1))) := hs14
          have HB14 : Hid (Below w.heap.size w w14) := hc14.below HS.out.two.lx HB.out HB.out.size
          clear C hs14 hc14 hf14
          go_wp2_with fail
          go_roundw
          case rel => exact ⟨j + 1, a3 sa sb, b2 sa sb, F14, G8, hj1, by go_num, HPP, HS14, HB14⟩
          case measure => simp [intOf]; omega
    case false =>
      have hl0 : Ec.left sa = 0 := by have h9 := of_decide_eq_false HTT.out.symm; omega
      have HDN : Hid (sb.got = sent) := HSc.out.k.done hl0
      have HL0 : Hid (Ec.left sa = 0) := hl0
      have C := got_b HSc.out
      clear HTT hl0 HPH
      go_wp2_with fail
      refine C.mono ?_
      rintro e w11 ⟨p11, n11, c11, rfl, ht11, hb11⟩
      have HS11 : Hid (St L w.heap.size sent w11 X Y sa sb F G T (40 + j)) := HSc.out.below hb11
      have HB11 : Hid (Below w.heap.size w w11) := bel HBB.out hb11
      have hrow := HS11.out.row
      rw [HTV.out] at hrow
      have C2 := texts_any _ _ _ _ w11 _ _ ht11 (TxJ.own hrow) (by rw [HDN.out]; have := HS11.out.few; omega)
      rw [decide_eq_true HDN.out] at C2
      clear C ht11 hb11 hrow
      go_wp2_with fail
      refine C2.mono ?_
      rintro e w12 ⟨rfl, hb12⟩
      have HS12 : Hid (St L w.heap.size sent w12 X Y sa sb F G T (40 + j)) := HS11.out.below hb12
      have HB12 : Hid (Below w.heap.size w w12) := bel HB11.out hb12
      have C3 := left_a HS12.out (by omega)
      rw [HL0.out] at C3
      clear C2 hb12
      go_wp2_with fail
      refine C3.mono ?_
      rintro e w13 ⟨rfl, hb13⟩
      have HB13 : Hid (Below w.heap.size w w13) := bel HB12.out hb13
      clear C3 hb13
      go_wp2_with fail
      go_ret
      exact ⟨rfl, HB13.out⟩

end El
end Go.Proofs.Ytaicacnijlneaaa
