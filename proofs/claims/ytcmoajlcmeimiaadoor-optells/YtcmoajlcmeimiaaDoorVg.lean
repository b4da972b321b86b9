/- What the reader of package op answers, and where it panics: take, one, two, dot; strings.Clone. -/
import Derived.Test.YtcmoajlcmeimiaaDoorVf
import Derived.Lib.UnsafeStr
import Derived.Lib.BufferWrite
import Derived.Laws.MakeOwn
namespace Go.Proofs.YtcmoajlcmeimiaaDoor
namespace Vg
set_option linter.unusedVariables false
open Go.ChangeShapes Go.WideShapes Go.ChangeAt Go.RowKit Cm Ka Kb Na Om Oa Oz Oc Og Oi Ov Va Vb Vc Vd Ve Vf
open La (bel bel_drew errV_zero errV_ne own_ge own_grow own_below)

/- the reader at g: what is left -/
def Rd (w : World) (g : Nat) (r : ByteArray) : Prop := w.heap[g]? = some (.cells #[.string r] 112 (0, 0))
def SynP : List PanicEntry := [{ v := .iface 74 (.int .i64 2), recovered := false }]
theorem only_grown {g : Nat} {w w' : World} (h : Only g w w') : w.grownBy w' (some g) := ⟨h.os, h.tape, h.output, Nat.le_of_eq h.size.symm, fun k _ hne => h.block k (fun e => hne (by rw [e]))⟩
theorem grown_block {g k : Nat} {w w' : World} (h : w.grownBy w' (some g)) {o : Obj} (hk : w.heap[k]? = some o) (hne : k ≠ g) : w'.heap[k]? = some o := by
  have hlt : k < w.heap.size := by
    rcases Nat.lt_or_ge k w.heap.size with e | e
    · exact e
    · rw [Array.getElem?_eq_none e] at hk; cases hk
  rw [h.block k hlt (fun e => hne (by injection e))]; exact hk
theorem grown_below {g B : Nat} {w w' : World} (h : w.grownBy w' (some g)) (hB : B ≤ g) (hB2 : B ≤ w.heap.size) : Below B w w' := ⟨h.os, h.tape, h.output, h.size, fun k hk => h.block k (by omega) (fun e => by injection e with e; omega)⟩
theorem grown_set {row : Option Nat} {w w' : World} (h : w.grownBy w' row) {p : Addr} (hp : w.heap.size ≤ p.block) (v : Value) : w.grownBy (w'.setCell p v) row :=
  ⟨h.os, h.tape, h.output, by simp only [World.setCell, Array.size_modify]; exact h.size, fun k hk hne => (set_block w' p v k (by omega)).trans (h.block k hk hne)⟩
theorem ext_size (s : ByteArray) (k : Nat) : (s.extract k s.size).size = s.size - k := size_extract s k s.size (Nat.le_refl _)
theorem ext_take (s : ByteArray) (k n : Nat) (h : k + n ≤ s.size) : (s.extract k s.size).extract 0 n = s.extract k (k + n) := by
  apply mk_eq
  rw [list_extract, list_rest, list_extract, List.drop_zero, List.drop_take, show k + n - k = n by omega]
theorem ext_drop (s : ByteArray) (k n : Nat) (h : k + n ≤ s.size) : (s.extract k s.size).extract n (s.extract k s.size).size = s.extract (k + n) s.size := by
  apply mk_eq
  rw [list_rest, list_rest, list_rest, List.drop_drop]
theorem ext_all (s : ByteArray) : s.extract 0 s.size = s := by
  apply mk_eq
  rw [list_rest, List.drop_zero]

theorem take_no (g : Nat) (s : ByteArray) (k n : Nat) (w : World) (hr : Rd w g (s.extract k s.size)) (hk : k ≤ s.size) (h : s.size < k + n) (hs : s.size ≤ maxLen) :
    Calls Tryd.prog 78 #[.pointer (some ⟨g, 0, none⟩), .int .i64 n] w fun e w' => e = .panicked SynP ∧ w' = w := by
  have hc : w.cell? ⟨g, 0, none⟩ = some (.string (s.extract k s.size)) := cell_of hr rfl
  obtain ⟨r, hre⟩ : ∃ r, r = s.extract k s.size := ⟨_, rfl⟩
  have hz : (r.size : Int) < n := by rw [hre, ext_size]; omega
  rw [← hre] at hc
  clear hr hre h hk
  go_enter Tryd.func78, Tryd.ntmps78
  go_wp2_with fail
  exact ⟨rfl, rfl, rfl⟩
theorem take_ok (g : Nat) (s : ByteArray) (k n : Nat) (w : World) (hr : Rd w g (s.extract k s.size)) (h : k + n ≤ s.size) (hs : s.size ≤ maxLen) :
    Calls Tryd.prog 78 #[.pointer (some ⟨g, 0, none⟩), .int .i64 n] w fun e w' => e = .returned (.string (s.extract k (k + n))) ∧ Rd w' g (s.extract (k + n) s.size) ∧ Only g w w' := by
  have hc : w.cell? ⟨g, 0, none⟩ = some (.string (s.extract k s.size)) := cell_of hr rfl
  have hf : w.frozen? ⟨g, 0, none⟩ = false := free_of hr
  have H1 := ext_take s k n h
  have H2 := ext_drop s k n h
  have hsz := ext_size s k
  have HR : Hid (Rd w g (s.extract k s.size)) := hr
  obtain ⟨r, hre⟩ : ∃ r, r = s.extract k s.size := ⟨_, rfl⟩
  rw [← hre] at hc H1 H2 hsz HR
  have hz : ¬ (r.size : Int) < n := by omega
  have hnz : (n : Int) ≤ r.size := by omega
  have hm : r.size ≤ maxLen := by omega
  have H1H : Hid (r.extract 0 n = s.extract k (k + n)) := H1
  have H2H : Hid (r.extract n r.size = s.extract (k + n) s.size) := H2
  rw [← H1H.out, ← H2H.out]
  clear hr hre h H1 H2 hsz
  go_enter Tryd.func78, Tryd.ntmps78
  go_wp2_with fail
  go_ret
  exact ⟨rfl, setCell_heap HR.out, only_setCell _ _ _ _⟩

theorem one_no (g : Nat) (s : ByteArray) (k : Nat) (w : World) (hr : Rd w g (s.extract k s.size)) (hk : k ≤ s.size) (h : s.size < k + 1) (hs : s.size ≤ maxLen) :
    Calls Tryd.prog 75 #[.pointer (some ⟨g, 0, none⟩)] w fun e w' => e = .panicked SynP ∧ w' = w := by
  have C := take_no g s k 1 w hr hk h hs
  go_enter Tryd.func75, Tryd.ntmps75
  go_wp2_with fail
  refine C.mono ?_
  rintro e w2 ⟨rfl, hw⟩
  have hw2 := hw.symm; subst hw2; clear hw
  go_wp2_with fail
  exact ⟨rfl, rfl, rfl⟩
theorem one_ok (g : Nat) (s : ByteArray) (k : Nat) (w : World) (hr : Rd w g (s.extract k s.size)) (h : k + 1 ≤ s.size) (hs : s.size ≤ maxLen) :
    Calls Tryd.prog 75 #[.pointer (some ⟨g, 0, none⟩)] w fun e w' => e = .returned (.int .i64 ((s.toList.getD k 0).toNat : Int)) ∧ Rd w' g (s.extract (k + 1) s.size) ∧ Only g w w' := by
  have C := take_ok g s k 1 w hr h hs
  obtain ⟨T, hT⟩ : ∃ T, T = s.extract k (k + 1) := ⟨_, rfl⟩
  have hTs : T.size = 1 := by rw [hT, size_extract s k (k + 1) h]; omega
  have hT0 : 0 < T.size := by omega
  have hT0z : (0 : Int) < T.size := by omega
  have HE : Hid (((s.toList.getD k 0).toNat : Int) = (T[0].toNat : Int)) := by
    unfold Hid
    rw [← at_list T 0 hT0, hT, list_extract]
    congr 2
    rw [List.getD_eq_getElem?_getD, List.getD_eq_getElem?_getD, List.getElem?_drop, List.getElem?_take_of_lt (by omega)]
    rfl
  rw [HE.out]
  have hb : T[0].toNat < 256 := UInt8.toNat_lt _
  have hw : IntKind.i64.wrap (T[0].toNat : Int) = (T[0].toNat : Int) := by rw [IntKind.wrap_i64]; omega
  have hTm : T.size ≤ maxLen := by unfold maxLen; omega
  rw [← hT] at C
  clear hr h hT hTs HE
  go_enter Tryd.func75, Tryd.ntmps75
  go_wp2_with fail
  refine C.mono ?_
  rintro e w2 ⟨rfl, hr2, ho2⟩
  have HR2 : Hid (Rd w2 g (s.extract (k + 1) s.size)) := hr2
  have HO2 : Hid (Only g w w2) := ho2
  clear hr2 ho2 C
  go_wp2_with fail
  go_ret
  exact ⟨rfl, HR2.out, HO2.out⟩

theorem two_no (g : Nat) (s : ByteArray) (k : Nat) (w : World) (hr : Rd w g (s.extract k s.size)) (hk : k ≤ s.size) (h : s.size < k + 2) (hs : s.size ≤ maxLen) :
    Calls Tryd.prog 79 #[.pointer (some ⟨g, 0, none⟩)] w fun e w' => e = .panicked SynP ∧ w.grownBy w' (some g) := by
  by_cases h1 : s.size < k + 1
  · have C := one_no g s k w hr hk h1 hs
    go_enter Tryd.func79, Tryd.ntmps79
    go_wp2_with fail
    refine C.mono ?_
    rintro e w2 ⟨rfl, hw⟩
    have hw2 := hw.symm; subst hw2; clear hw
    go_wp2_with fail
    exact ⟨rfl, rfl, World.grownBy.refl _ _⟩
  · have C := one_ok g s k w hr (by omega) hs
    obtain ⟨x, hx⟩ : ∃ x : Int, x = ((s.toList.getD k 0).toNat : Int) := ⟨_, rfl⟩
    have hx0 : 0 ≤ x := by omega
    have hx1 : x < 256 := by rw [hx]; have := UInt8.toNat_lt (s.toList.getD k 0); omega
    rw [← hx] at C
    clear hx
    go_enter Tryd.func79, Tryd.ntmps79
    go_wp2_with fail
    refine C.mono ?_
    rintro e w2 ⟨rfl, hr2, ho2⟩
    have C2 := one_no g s (k + 1) w2 hr2 (by omega) (by omega) hs
    have HO2 : Hid (Only g w w2) := ho2
    clear C hr2 ho2
    go_wp2_with fail
    refine C2.mono ?_
    rintro e w3 ⟨rfl, hw⟩
    have hw2 := hw.symm; subst hw2; clear hw
    go_wp2_with fail
    exact ⟨rfl, rfl, only_grown HO2.out⟩
theorem or_two (X Y : Nat) (hX : X < 256) (hY : Y < 256) : bits .or .i64 ((X : Int) * 256) (Y : Int) = (X : Int) * 256 + (Y : Int) := by
  have e : ((X : Int) * 256) = ((X * 256 : Nat) : Int) := by omega
  have ho : X * 256 ||| Y = X * 256 + Y := by
    have := Nat.two_pow_add_eq_or_of_lt (i := 8) (b := Y) hY X
    rw [show (2 : Nat) ^ 8 * X = X * 256 by omega] at this
    exact this.symm
  have h1 : (BitVec.ofInt 64 ((X * 256 : Nat) : Int)).toNat = X * 256 := by
    rw [BitVec.ofInt_natCast, BitVec.toNat_ofNat]; exact Nat.mod_eq_of_lt (by omega)
  have h2 : (BitVec.ofInt 64 (Y : Int)).toNat = Y := by
    rw [BitVec.ofInt_natCast, BitVec.toNat_ofNat]; exact Nat.mod_eq_of_lt (by omega)
  rw [e]
  show IntKind.i64.wrap ((BitVec.ofInt 64 ((X * 256 : Nat) : Int) ||| BitVec.ofInt 64 (Y : Int)).toNat : Int) = _
  rw [BitVec.toNat_or, h1, h2, ho, IntKind.wrap_i64]
  omega
theorem Only.trans {g : Nat} {a b c : World} (h : Only g a b) (k : Only g b c) : Only g a c := ⟨k.os.trans h.os, k.tape.trans h.tape, k.output.trans h.output, k.size.trans h.size, fun j hj => (k.block j hj).trans (h.block j hj)⟩
theorem two_ok (g : Nat) (s : ByteArray) (k : Nat) (w : World) (hr : Rd w g (s.extract k s.size)) (h : k + 2 ≤ s.size) (hs : s.size ≤ maxLen) :
    Calls Tryd.prog 79 #[.pointer (some ⟨g, 0, none⟩)] w fun e w' => e = .returned (.int .i64 ((numAt s.toList k : Nat) : Int)) ∧ Rd w' g (s.extract (k + 2) s.size) ∧ Only g w w' := by
  have C := one_ok g s k w hr (by omega) hs
  obtain ⟨x, hx⟩ : ∃ x : Int, x = ((s.toList.getD k 0).toNat : Int) := ⟨_, rfl⟩
  have hx0 : 0 ≤ x := by omega
  have hx1 : x < 256 := by rw [hx]; have := UInt8.toNat_lt (s.toList.getD k 0); omega
  obtain ⟨y, hy⟩ : ∃ y : Int, y = ((s.toList.getD (k + 1) 0).toNat : Int) := ⟨_, rfl⟩
  have hy0 : 0 ≤ y := by omega
  have hy1 : y < 256 := by rw [hy]; have := UInt8.toNat_lt (s.toList.getD (k + 1) 0); omega
  have HE : Hid (((numAt s.toList k : Nat) : Int) = x * 256 + y) := by unfold Hid numAt; rw [hx, hy]; omega
  have HOR : Hid (bits .or .i64 (x * 256) y = x * 256 + y) := by unfold Hid; rw [hx, hy]; exact or_two _ _ (UInt8.toNat_lt _) (UInt8.toNat_lt _)
  have HY : Hid (y = ((s.toList.getD (k + 1) 0).toNat : Int)) := hy
  rw [← hx] at C
  clear hx hy
  go_enter Tryd.func79, Tryd.ntmps79
  go_wp2_with fail
  refine C.mono ?_
  rintro e w2 ⟨rfl, hr2, ho2⟩
  have C2 := one_ok g s (k + 1) w2 hr2 (by omega) hs
  rw [← HY.out] at C2
  have HO2 : Hid (Only g w w2) := ho2
  clear C hr2 ho2
  go_wp2_with fail
  refine C2.mono ?_
  rintro e w3 ⟨rfl, hr3, ho3⟩
  have HR3 : Hid (Rd w3 g (s.extract (k + 2) s.size)) := hr3
  have HO3 : Hid (Only g w2 w3) := ho3
  clear C2 hr3 ho3
  go_wp2_with fail
  go_ret
  refine ⟨?_, HR3.out, ?_⟩
  · rw [HE.out, ← HOR.out]; rfl
  · exact Only.trans HO2.out HO3.out

theorem dot_no (g : Nat) (s : ByteArray) (k : Nat) (w : World) (hr : Rd w g (s.extract k s.size)) (hk : k ≤ s.size) (h : s.size < k + 3) (hs : s.size ≤ maxLen) :
    Calls Tryd.prog 76 #[.pointer (some ⟨g, 0, none⟩)] w fun e w' => e = .panicked SynP ∧ w.grownBy w' (some g) := by
  have hgl : g < w.heap.size := by
    rcases Nat.lt_or_ge g w.heap.size with e | e
    · exact e
    · unfold Rd at hr; rw [Array.getElem?_eq_none e] at hr; cases hr
  have HA : Hid (∀ O, Rd (w.alloc O) g (s.extract k s.size)) := fun O => (heap_alloc_old w O hgl).trans hr
  have HG : Hid (∀ O, w.grownBy (w.alloc O) (some g)) := fun O => World.grownBy_alloc w O _
  by_cases h1 : s.size < k + 1
  · have C := fun O => one_no g s k (w.alloc O) (HA.out O) hk h1 hs
    clear hr
    go_enter Tryd.func76, Tryd.ntmps76
    go_wp2_with fail
    refine (C _).mono ?_
    rintro e w2 ⟨rfl, hw⟩
    have hw2 := hw.symm; subst hw2; clear hw
    go_wp2_with fail
    exact ⟨rfl, rfl, HG.out _⟩
  · have C := fun O => one_ok g s k (w.alloc O) (HA.out O) (by omega) hs
    obtain ⟨x, hx⟩ : ∃ x : Int, x = ((s.toList.getD k 0).toNat : Int) := ⟨_, rfl⟩
    rw [← hx] at C
    clear hx hr
    go_enter Tryd.func76, Tryd.ntmps76
    go_wp2_with fail
    refine (C _).mono ?_
    rintro e w2 ⟨rfl, hr2, ho2⟩
    have C2 := two_no g s (k + 1) w2 hr2 (by omega) (by omega) hs
    have HO2 : Hid (w.grownBy w2 (some g)) := (HG.out _).trans (only_grown ho2)
    clear C hr2 ho2
    go_wp2_with fail
    refine C2.mono ?_
    rintro e w3 ⟨rfl, hg3⟩
    have HO3 : Hid (w.grownBy w3 (some g)) := HO2.out.trans hg3
    clear hg3 C2
    go_wp2_with fail
    exact ⟨rfl, rfl, HO3.out⟩
theorem dot_ok (g : Nat) (s : ByteArray) (k : Nat) (w : World) (hr : Rd w g (s.extract k s.size)) (h : k + 3 ≤ s.size) (hs : s.size ≤ maxLen) :
    Calls Tryd.prog 76 #[.pointer (some ⟨g, 0, none⟩)] w fun e w' => e = .returned (.agg #[.int .i64 ((s.toList.getD k 0).toNat : Int), .int .i64 ((numAt s.toList (k + 1) : Nat) : Int)]) ∧ Rd w' g (s.extract (k + 3) s.size) ∧ w.grownBy w' (some g) := by
  have hgl : g < w.heap.size := by
    rcases Nat.lt_or_ge g w.heap.size with e | e
    · exact e
    · unfold Rd at hr; rw [Array.getElem?_eq_none e] at hr; cases hr
  have HA : Hid (∀ O, Rd (w.alloc O) g (s.extract k s.size)) := fun O => (heap_alloc_old w O hgl).trans hr
  have HG : Hid (∀ O, w.grownBy (w.alloc O) (some g)) := fun O => World.grownBy_alloc w O _
  have HGL : Hid (g < w.heap.size) := hgl
  have HN : Hid (∀ O, (w.alloc O).heap[w.heap.size]? = some O) := fun O => heap_alloc_new w O
  obtain ⟨x, hx⟩ : ∃ x : Int, x = ((s.toList.getD k 0).toNat : Int) := ⟨_, rfl⟩
  obtain ⟨y, hy⟩ : ∃ y : Int, y = ((numAt s.toList (k + 1) : Nat) : Int) := ⟨_, rfl⟩
  have C := fun O => one_ok g s k (w.alloc O) (HA.out O) (by omega) hs
  have HY : Hid (y = ((numAt s.toList (k + 1) : Nat) : Int)) := hy
  rw [← hx] at C
  rw [← hx, ← hy]
  clear hx hy hr
  go_enter Tryd.func76, Tryd.ntmps76
  go_wp2_with fail
  refine (C _).mono ?_
  rintro e w2 ⟨rfl, hr2, ho2⟩
  have C2 := two_ok g s (k + 1) w2 hr2 (by omega) hs
  rw [← HY.out] at C2
  have HO2 : Hid (Only g (w.alloc (.cells #[.int .i64 0, .int .i64 0] 24)) w2) := ho2
  clear C hr2 ho2
  go_wp2_with fail
  refine C2.mono ?_
  rintro e w3 ⟨rfl, hr3, ho3⟩
  have HR3 : Hid (Rd w3 g (s.extract (k + 3) s.size)) := hr3
  have HO3 : Hid (Only g (w.alloc (.cells #[.int .i64 0, .int .i64 0] 24)) w3) := Only.trans HO2.out ho3
  have HB3 : Hid (w3.heap[w.heap.size]? = some (.cells #[.int .i64 0, .int .i64 0] 24 (0, 0))) := ((HO3.out.block _ (by have := HGL.out; omega)).trans (HN.out _))
  have c0 : w3.cell? ⟨w.heap.size, 0, none⟩ = some (.int .i64 0) := cell_of HB3.out rfl
  have c1 : w3.cell? ⟨w.heap.size, 1, none⟩ = some (.int .i64 0) := cell_of HB3.out rfl
  have f0 : w3.frozen? ⟨w.heap.size, 0, none⟩ = false := free_of HB3.out
  have f1 : w3.frozen? ⟨w.heap.size, 1, none⟩ = false := free_of HB3.out
  clear C2 hr3 ho3
  go_wp2_with fail
  have h1 : ((w3.setCell ⟨w.heap.size, 0, none⟩ (.int .i64 x)).setCell ⟨w.heap.size, 1, none⟩ (.int .i64 y)).heap[w.heap.size]? = some (.cells #[.int .i64 x, .int .i64 y] 24 (0, 0)) := setCell_heap (setCell_heap HB3.out)
  have h2 : Rd ((w3.setCell ⟨w.heap.size, 0, none⟩ (.int .i64 x)).setCell ⟨w.heap.size, 1, none⟩ (.int .i64 y)) g (s.extract (k + 3) s.size) := by
    unfold Rd
    have := HGL.out
    rw [set_block _ _ _ _ (by simp; omega), set_block _ _ _ _ (by simp; omega)]
    exact HR3.out
  have h3 : w.grownBy ((w3.setCell ⟨w.heap.size, 0, none⟩ (.int .i64 x)).setCell ⟨w.heap.size, 1, none⟩ (.int .i64 y)) (some g) :=
    grown_set (grown_set ((HG.out _).trans (only_grown HO3.out)) (Nat.le_refl _) _) (Nat.le_refl _) _
  obtain ⟨W, hW⟩ : ∃ W, W = ((w3.setCell ⟨w.heap.size, 0, none⟩ (.int .i64 x)).setCell ⟨w.heap.size, 1, none⟩ (.int .i64 y)) := ⟨_, rfl⟩
  rw [← hW] at h1 h2 h3
  rw [← hW]
  have r0 : W.cell? ⟨w.heap.size, 0, none⟩ = some (.int .i64 x) := cell_of h1 rfl
  have r1 : W.cell? ⟨w.heap.size, 1, none⟩ = some (.int .i64 y) := cell_of h1 rfl
  clear hW c0 c1 f0 f1
  refine bodyPost_ret (v := .agg #[.int .i64 x, .int .i64 y]) ?_ rfl ⟨rfl, h2, h3⟩
  simp [results, Tryd.results76, go_sem, asAddr, Result.andThen, r0, r1]

end Vg
end Go.Proofs.YtcmoajlcmeimiaaDoor
