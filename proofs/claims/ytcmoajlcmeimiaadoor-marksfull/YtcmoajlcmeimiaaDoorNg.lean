/- What marks.Cut answers, at all marks. -/
import Derived.Test.YtcmoajlcmeimiaaDoorNf
import Derived.Deep.RegionWith
import Derived.RegionTactic
import Derived.BigRegion
namespace Go.Proofs.YtcmoajlcmeimiaaDoor
namespace Ng
set_option linter.unusedVariables false
open Go.ChangeShapes Go.WideShapes Go.ChangeAt Go.RowKit Cm Ka Kb Na Nb Nc Nd Nse Nf
open La (bel bel_drew errV_zero errV_ne own_ge own_grow own_below)

/- the three rows as they lie in memory when slices.Concat is called -/
def threeW (w2 : World) (x : Mk) (v0 v2 : Value) : World := ((w2.alloc (.cells #[.string x.1, .int .i64 x.2.1, .int .i64 x.2.2] 26)).alloc (.cells #[v0, .slice (some ⟨w2.heap.size, 0, none⟩) 1 1, v2] 22)).drew
theorem three_below (w2 : World) (x : Mk) (v0 v2 : Value) : Below w2.heap.size w2 (threeW w2 x v0 v2) :=
  ((((Below.refl _ w2).alloc (Nat.le_refl _) _).alloc (by simp) _).drew)
theorem concat_three (w2 : World) (x : Mk) (v0 v2 : Value) (l0 l2 : List Mk) (h0 : Part w2 v0 l0) (h2 : Part w2 v2 l2) (hn : (l0 ++ x :: l2).length ≤ 1048576) :
    Calls Tryd.prog 40 #[.slice (some ⟨w2.heap.size + 1, 0, none⟩) 3 3] (threeW w2 x v0 v2) fun e w' => ∃ v, e = .returned v ∧ MksNew w2.heap.size w' v (l0 ++ x :: l2) ∧ Below w2.heap.size w2 w' := by
  have hb := three_below w2 x v0 v2
  have hg : (threeW w2 x v0 v2).heap[w2.heap.size + 1]? = some (.cells #[v0, .slice (some ⟨w2.heap.size, 0, none⟩) 1 1, v2] 22) := by
    have := heap_alloc_new (w2.alloc (.cells #[.string x.1, .int .i64 x.2.1, .int .i64 x.2.2] 26)) (.cells #[v0, .slice (some ⟨w2.heap.size, 0, none⟩) 1 1, v2] 22)
    have e : (w2.alloc (.cells #[.string x.1, .int .i64 x.2.1, .int .i64 x.2.2] 26)).heap.size = w2.heap.size + 1 := by simp
    rw [e] at this
    exact this
  have hx : (threeW w2 x v0 v2).heap[w2.heap.size]? = some (.cells #[.string x.1, .int .i64 x.2.1, .int .i64 x.2.2] 26) := by
    have := heap_alloc_old (w2.alloc (.cells #[.string x.1, .int .i64 x.2.1, .int .i64 x.2.2] 26)) (.cells #[v0, .slice (some ⟨w2.heap.size, 0, none⟩) 1 1, v2] 22) (show w2.heap.size < _ by simp)
    exact this.trans (heap_alloc_new w2 _)
  have e3 : cat (fun j => if j = 0 then l0 else if j = 1 then [x] else l2) 3 = l0 ++ x :: l2 := by simp [cat, List.range_succ]
  have C := concat_any (w2.heap.size + 1) (fun j => if j = 0 then v0 else if j = 1 then .slice (some ⟨w2.heap.size, 0, none⟩) 1 1 else v2) (fun j => if j = 0 then l0 else if j = 1 then [x] else l2) (threeW w2 x v0 v2) (by
      intro j hj
      match j, hj with
      | 0, _ => simp only [World.cell?, hg]; rfl
      | 1, _ => simp only [World.cell?, hg]; rfl
      | 2, _ => simp only [World.cell?, hg]; rfl) (by
      intro j hj
      match j, hj with
      | 0, _ => exact h0.below hb
      | 1, _ =>
        refine Or.inr ⟨⟨w2.heap.size, 0, none⟩, 1, rfl, fun i u hu => ?_⟩
        rw [Addr.add_lit, Nat.zero_add]
        simp only [World.cell?, hx]
        have e : flat [x] = [.string x.1, .int .i64 x.2.1, .int .i64 x.2.2] := rfl
        have hu2 : (flat [x])[i]? = some u := hu
        rw [e] at hu2
        simpa using hu2
      | 2, _ => exact h2.below hb) (by rw [e3]; simp; omega) (by rw [e3]; exact hn)
  refine C.mono ?_
  rintro e w' ⟨v, rfl, ho, hb2⟩
  rw [e3] at ho
  exact ⟨v, rfl, ⟨own_mks ho, (La.Lies.own ho).mono hb.size⟩, bel hb hb2⟩
theorem take_part {w : World} {b o i c : Nat} {l : List Mk} (hi : i ≤ l.length) (h : ∀ j, j < l.length → MAt w b o j (l.getD j none1)) : Part w (.slice (some ⟨b, o, none⟩) i c) (l.take i) := by
  have e : (l.take i).length = i := by rw [List.length_take]; omega
  have := marks_part (w := w) (b := b) (o := o) (l := l.take i) c (fun j hj => by
    rw [e] at hj
    have : (l.take i).getD j none1 = l.getD j none1 := by
      rw [List.getD_eq_getElem?_getD, List.getD_eq_getElem?_getD, List.getElem?_take_of_lt hj]
    rw [this]; exact h j (by omega))
  rw [e] at this; exact this
theorem drop_part {w : World} {b o i c n : Nat} {l : List Mk} {ad : Addr} (hl : l.length = n) (hi : i ≤ n) (hc : n ≤ c) (had : (if c = i then some (⟨b, o, none⟩ : Addr) else some ⟨b, o + i * 3, none⟩) = some ad) (h : ∀ j, j < l.length → MAt w b o j (l.getD j none1)) : Part w (.slice (some ad) (n - i) (c - i)) (l.drop i) := by
  have e : (l.drop i).length = n - i := by rw [List.length_drop, hl]
  by_cases hci : c = i
  · have e0 : l.drop i = [] := List.drop_of_length_le (by omega)
    have e1 : n - i = 0 := by omega
    rw [e0, e1]
    exact Or.inr ⟨ad, c - i, rfl, fun j u hu => by simp [flat] at hu⟩
  · rw [if_neg hci] at had
    injection had with had
    subst had
    have := marks_part (w := w) (b := b) (o := o + i * 3) (l := l.drop i) (c - i) (fun j hj => by
      rw [e] at hj
      have e2 : (l.drop i).getD j none1 = l.getD (i + j) none1 := by
        rw [List.getD_eq_getElem?_getD, List.getD_eq_getElem?_getD, List.getElem?_drop]
      rw [e2]
      have h3 := h (i + j) (by omega)
      unfold MAt at h3 ⊢
      rw [show o + i * 3 + j * 3 = o + (i + j) * 3 by omega]
      exact h3)
    rw [e] at this; exact this


set_option maxHeartbeats 1000000 in
theorem cut_bad (v : Value) (l : List Mk) (sp : ByteArray) (p1 p2 : Int) (w : World) (hA : MksAt w v l) (hs : ∀ x ∈ l, x.1.size ≤ maxLen) (hp : sp.size ≤ maxLen) (h0 : marksE l ≠ 0) :
    Calls Tryd.prog 11 #[v, .agg #[.string sp, .int .i64 p1, .int .i64 p2]] w fun e w' => e = .returned (.tuple #[.slice none 0 0, errV (marksE l)]) ∧ Below w.heap.size w w' := by
  have hb1 : Below w.heap.size w (w.alloc (.cells #[.string sp, .int .i64 p1, .int .i64 p2] 26)) := (Below.refl _ w).alloc (Nat.le_refl _) _
  have C := checkM_any v l _ (hA.below hb1) hs
  obtain ⟨q, hq⟩ : ∃ q, q = marksE l := ⟨_, rfl⟩
  rw [errV_ne h0, ← hq] at C ⊢
  clear h0 hq hs hp hA hb1
  go_enter Tryd.func11, Tryd.ntmps11
  go_wp2_with fail
  refine C.mono ?_
  rintro e w2 ⟨rfl, hb2⟩
  have HB2 : Hid (Below w.heap.size w w2) := bel_new (Below.refl _ w) hb2
  obtain ⟨d0, d1, d2⟩ := new_cell (x := (sp, (p1, p2))) hb2
  simp only at d0 d1 d2
  clear hb2 C
  go_wp2_with fail
  go_ret2
  exact ⟨rfl, HB2.out⟩

set_option maxHeartbeats 1000000 in
theorem cut_wrong (v : Value) (l : List Mk) (sp : ByteArray) (p1 p2 : Int) (w : World) (hA : MksAt w v l) (hs : ∀ x ∈ l, x.1.size ≤ maxLen) (hp : sp.size ≤ maxLen) (h0 : marksE l = 0) (hm0 : markE (sp, (p1, p2)) ≠ 0) :
    Calls Tryd.prog 11 #[v, .agg #[.string sp, .int .i64 p1, .int .i64 p2]] w fun e w' => e = .returned (.tuple #[.slice none 0 0, errV (markE (sp, (p1, p2)))]) ∧ Below w.heap.size w w' := by
  have hb1 : Below w.heap.size w (w.alloc (.cells #[.string sp, .int .i64 p1, .int .i64 p2] 26)) := (Below.refl _ w).alloc (Nat.le_refl _) _
  have C := checkM_any v l _ (hA.below hb1) hs
  rw [h0, errV_zero] at C
  have C2 := fun W => checkMark_any sp p1 p2 W hp
  obtain ⟨q, hq⟩ : ∃ q, q = markE (sp, (p1, p2)) := ⟨_, rfl⟩
  rw [errV_ne hm0, ← hq] at C2 ⊢
  clear h0 hm0 hq hs hp hA hb1
  go_enter Tryd.func11, Tryd.ntmps11
  go_wp2_with fail
  refine C.mono ?_
  rintro e w2 ⟨rfl, hb2⟩
  have HB2 : Hid (Below w.heap.size w w2) := bel_new (Below.refl _ w) hb2
  obtain ⟨d0, d1, d2⟩ := new_cell (x := (sp, (p1, p2))) hb2
  simp only at d0 d1 d2
  clear hb2 C
  go_wp2_with fail
  refine (C2 w2).mono ?_
  rintro e w3 ⟨rfl, hb3⟩
  have HB3 : Hid (Below w.heap.size w w3) := bel HB2.out hb3
  have e0 := keep_cell hb3 d0
  have e1 := keep_cell hb3 d1
  have e2 := keep_cell hb3 d2
  clear hb3 C2 d0 d1 d2
  go_wp2_with fail
  go_ret2
  exact ⟨rfl, HB3.out⟩

set_option maxRecDepth 100000 in
set_option maxHeartbeats 1000000 in
theorem cut_there (ad : Addr) (n c : Nat) (l : List Mk) (sp : ByteArray) (p1 p2 : Int) (w : World) (hA : MksAt w (.slice (some ad) n c) l) (hs : ∀ x ∈ l, x.1.size ≤ maxLen) (hp : sp.size ≤ maxLen) (h0 : marksE l = 0) (hm0 : markE (sp, (p1, p2)) = 0) (ht : there l (sp, (p1, p2)) = true) :
    Calls Tryd.prog 11 #[(.slice (some ad) n c), .agg #[.string sp, .int .i64 p1, .int .i64 p2]] w fun e w' => ∃ v', e = .returned (.tuple #[v', .nilIface]) ∧ MksNew w.heap.size w' v' (ins mlt l (sp, (p1, p2))) ∧ Below w.heap.size w w' := by
  have hb1 : Below w.heap.size w (w.alloc (.cells #[.string sp, .int .i64 p1, .int .i64 p2] 26)) := (Below.refl _ w).alloc (Nat.le_refl _) _
  have C := checkM_any (.slice (some ad) n c) l _ (hA.below hb1) hs
  rw [h0, errV_zero] at C
  have C2 := fun W => checkMark_any sp p1 p2 W hp
  rw [hm0, errV_zero] at C2
  obtain ⟨hl40, _, hr⟩ := marksE_zero.1 h0
  obtain ⟨p, c', hv, hlf, hcc, hcm, _⟩ := hA
  injection hv with hv1 hv2 hv3
  subst hv1 hv3
  have hl : l.length = n := hv2.symm
  have HC3 : Hid (∀ w2, Below w.heap.size w w2 → Calls Tryd.prog 38 #[.slice (some ad) n c, .agg #[.string sp, .int .i64 p1, .int .i64 p2], .func (.func 36) #[] #[]] w2 fun e w' => e = .returned (.tuple #[.int .i64 (pos mlt l (sp, (p1, p2))), .bool true]) ∧ Below w2.heap.size w2 w') := fun w2 hb => by
    have := search_any (some ad) n c l sp p1 p2 w2 hl (hlf.below hb) hr (by omega)
    rw [ht] at this; exact this
  have hne : l ≠ [] := by rintro rfl; rw [there] at ht; simp at ht
  obtain ⟨b, o, hbo, hcs⟩ := hlf.some hne
  injection hbo with hbo
  subst hbo
  have HIN : Hid (ins mlt l (sp, (p1, p2)) = l) := ins_there (there_iff.1 ht)
  have HCL : Hid (∀ w2, Below w.heap.size w w2 → Calls Tryd.prog 39 #[.slice (some ⟨b, o, none⟩) n c] w2 fun e w' => ∃ v, e = .returned v ∧ w'.ownsRow w2.heap.size 26 3 v n (flat l) ∧ Below w2.heap.size w2 w') :=
    fun w2 hb => clone_any ⟨b, o, none⟩ n c l w2 hl (by omega) (fun j u hu => by rw [Addr.add_lit]; exact at_flat (fun j hj => (hcs j hj).below hb (hcs j hj).lt) j u hu)
  obtain ⟨i, hi⟩ : ∃ i, i = pos mlt l (sp, (p1, p2)) := ⟨_, rfl⟩
  rw [← hi] at HC3
  clear hl hlf hr ht hne hcs hi hcc hcm hl40 hv2
  clear h0 hm0 hs hp hb1
  go_enter Tryd.func11, Tryd.ntmps11
  go_wp2_with fail
  refine C.mono ?_
  rintro e w2 ⟨rfl, hb2⟩
  have HB2 : Hid (Below w.heap.size w w2) := bel_new (Below.refl _ w) hb2
  obtain ⟨d0, d1, d2⟩ := new_cell (x := (sp, (p1, p2))) hb2
  simp only at d0 d1 d2
  clear hb2 C
  go_wp2_with fail
  refine (C2 w2).mono ?_
  rintro e w3 ⟨rfl, hb3⟩
  have HB3 : Hid (Below w.heap.size w w3) := bel HB2.out hb3
  have e0 := keep_cell hb3 d0
  have e1 := keep_cell hb3 d1
  have e2 := keep_cell hb3 d2
  clear hb3 C2 d0 d1 d2
  have C3 := HC3.out w3 HB3.out
  go_wp2_with fail
  refine C3.mono ?_
  rintro e w4 ⟨rfl, hb4⟩
  have HB4 : Hid (Below w.heap.size w w4) := bel HB3.out hb4
  have f0 := keep_cell hb4 e0
  have f1 := keep_cell hb4 e1
  have f2 := keep_cell hb4 e2
  clear hb4 C3 e0 e1 e2
  have C4 := HCL.out w4 HB4.out
  go_wp2_with fail
  refine C4.mono ?_
  rintro e w5 ⟨v5, rfl, ho5, hb5⟩
  have HB5 : Hid (Below w.heap.size w w5) := bel HB4.out hb5
  have HO5 : Hid (MksNew w.heap.size w5 v5 l) := ⟨own_mks ho5, (La.Lies.own ho5).mono HB4.out.size⟩
  clear ho5 hb5 C4
  go_wp2_with fail
  go_ret2
  exact ⟨_, rfl, by rw [HIN.out]; exact HO5.out, HB5.out⟩

set_option maxRecDepth 100000 in
set_option maxHeartbeats 1000000 in
theorem cut_full (q : Option Addr) (n c : Nat) (l : List Mk) (sp : ByteArray) (p1 p2 : Int) (w : World) (hA : MksAt w (.slice q n c) l) (hs : ∀ x ∈ l, x.1.size ≤ maxLen) (hp : sp.size ≤ maxLen) (h0 : marksE l = 0) (hm0 : markE (sp, (p1, p2)) = 0) (ht : there l (sp, (p1, p2)) = false) (h40 : 40 ≤ n) :
    Calls Tryd.prog 11 #[(.slice q n c), .agg #[.string sp, .int .i64 p1, .int .i64 p2]] w fun e w' => e = .returned (.tuple #[.slice none 0 0, .iface 74 (.int .i64 4)]) ∧ Below w.heap.size w w' := by
  have hb1 : Below w.heap.size w (w.alloc (.cells #[.string sp, .int .i64 p1, .int .i64 p2] 26)) := (Below.refl _ w).alloc (Nat.le_refl _) _
  have C := checkM_any (.slice q n c) l _ (hA.below hb1) hs
  rw [h0, errV_zero] at C
  have C2 := fun W => checkMark_any sp p1 p2 W hp
  rw [hm0, errV_zero] at C2
  obtain ⟨hl40, _, hr⟩ := marksE_zero.1 h0
  obtain ⟨p, c', hv, hlf, hcc, hcm, _⟩ := hA
  injection hv with hv1 hv2 hv3
  subst hv1 hv3
  have hl : l.length = n := hv2.symm
  have HC3 : Hid (∀ w2, Below w.heap.size w w2 → Calls Tryd.prog 38 #[.slice q n c, .agg #[.string sp, .int .i64 p1, .int .i64 p2], .func (.func 36) #[] #[]] w2 fun e w' => e = .returned (.tuple #[.int .i64 (pos mlt l (sp, (p1, p2))), .bool false]) ∧ Below w2.heap.size w2 w') := fun w2 hb => by
    have := search_any q n c l sp p1 p2 w2 hl (hlf.below hb) hr (by omega)
    rw [ht] at this; exact this
  obtain ⟨i, hi⟩ : ∃ i, i = pos mlt l (sp, (p1, p2)) := ⟨_, rfl⟩
  rw [← hi] at HC3
  have hz : (40 : Int) ≤ n := by omega
  clear hl hlf hr ht hi hcc hcm hl40 hv2
  clear h0 hm0 hs hp hb1
  go_enter Tryd.func11, Tryd.ntmps11
  go_wp2_with fail
  refine C.mono ?_
  rintro e w2 ⟨rfl, hb2⟩
  have HB2 : Hid (Below w.heap.size w w2) := bel_new (Below.refl _ w) hb2
  obtain ⟨d0, d1, d2⟩ := new_cell (x := (sp, (p1, p2))) hb2
  simp only at d0 d1 d2
  clear hb2 C
  go_wp2_with fail
  refine (C2 w2).mono ?_
  rintro e w3 ⟨rfl, hb3⟩
  have HB3 : Hid (Below w.heap.size w w3) := bel HB2.out hb3
  have e0 := keep_cell hb3 d0
  have e1 := keep_cell hb3 d1
  have e2 := keep_cell hb3 d2
  clear hb3 C2 d0 d1 d2
  have C3 := HC3.out w3 HB3.out
  go_wp2_with fail
  refine C3.mono ?_
  rintro e w4 ⟨rfl, hb4⟩
  have HB4 : Hid (Below w.heap.size w w4) := bel HB3.out hb4
  have f0 := keep_cell hb4 e0
  have f1 := keep_cell hb4 e1
  have f2 := keep_cell hb4 e2
  clear hb4 C3 e0 e1 e2
  go_wp2_with fail
  go_ret2
  exact ⟨rfl, HB4.out⟩

end Ng
end Go.Proofs.YtcmoajlcmeimiaaDoor
