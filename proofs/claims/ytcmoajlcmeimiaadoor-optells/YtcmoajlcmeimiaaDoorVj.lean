/- What readOp answers: the op that the bytes are, or the panic of bytes that are none. -/
import Derived.Test.YtcmoajlcmeimiaaDoorVi
import Derived.RegionDies
import Derived.Deep.RegionLaw
namespace Go.Proofs.YtcmoajlcmeimiaaDoor
namespace Vj
set_option linter.unusedVariables false
open Go.ChangeShapes Go.WideShapes Go.ChangeAt Go.RowKit Cm Ka Kb Na Om Oa Oz Oc Og Oi Ov Va Vb Vc Vd Ve Vf Vg Vh Vi
open La (bel bel_drew errV_zero errV_ne own_ge own_grow own_below)

def six6 (w : World) (g : Nat) (x0 x1 x2 x3 x4 x5 : Value) : World := (((((w.setCell ⟨g, 0, none⟩ x0).setCell ⟨g, 1, none⟩ x1).setCell ⟨g, 2, none⟩ x2).setCell ⟨g, 3, none⟩ x3).setCell ⟨g, 4, none⟩ x4).setCell ⟨g, 5, none⟩ x5
theorem six6_block (w : World) (g : Nat) (x0 x1 x2 x3 x4 x5 : Value) (k : Nat) (h : k ≠ g) : (six6 w g x0 x1 x2 x3 x4 x5).heap[k]? = w.heap[k]? := by
  unfold six6
  rw [set_block _ _ _ _ h, set_block _ _ _ _ h, set_block _ _ _ _ h, set_block _ _ _ _ h, set_block _ _ _ _ h, set_block _ _ _ _ h]
theorem six6_size (w : World) (g : Nat) (x0 x1 x2 x3 x4 x5 : Value) : (six6 w g x0 x1 x2 x3 x4 x5).heap.size = w.heap.size := by
  simp [six6, World.setCell]
theorem six6_below {w0 w : World} {g B : Nat} (hb : Below B w0 w) (hg : B ≤ g) (x0 x1 x2 x3 x4 x5 : Value) : Below B w0 (six6 w g x0 x1 x2 x3 x4 x5) :=
  (((((hb.setCell (p := ⟨g, 0, none⟩) hg x0).setCell (p := ⟨g, 1, none⟩) hg x1).setCell (p := ⟨g, 2, none⟩) hg x2).setCell (p := ⟨g, 3, none⟩) hg x3).setCell (p := ⟨g, 4, none⟩) hg x4).setCell (p := ⟨g, 5, none⟩) hg x5
theorem grown_un {w w' : World} {row : Option Nat} (h : w.drew.grownBy w' row) : w.grownBy w' row := ⟨h.os, h.tape, h.output, h.size, h.block⟩
theorem own_grown {w w' : World} {B : Nat} {t : TypeId} {z : Nat} {v : Value} {n : Nat} {xs : List Value} (h : w.ownsRow (B + 2) t z v n xs) (hg : w.drew.grownBy w' (some B)) : w'.ownsRow (B + 2) t z v n xs :=
  own_same h (fun k hk hk2 => hg.block k hk2 (fun e => by injection e with e; omega))
theorem St.grew {w W W' : World} {s : ByteArray} {k h4 : Nat} {cs : Array Value} {t : TypeId} {z : Nat} {v v' : Value} {n : Nat} {xs : List Value} (h : St w W s k h4 cs) (ho : W.ownsRow (w.heap.size + 3) t z v n xs) (hg : Grew W W' v v') : St w W' s k h4 cs := by
  have key : ∀ j, j < w.heap.size + 3 → W'.heap[j]? = W.heap[j]? := fun j hj => hg.1.block j (Nat.lt_of_lt_of_le hj h.sz) (fun e => by have := (World.ownsRow.lt ho j e.symm).1; omega)
  have h4 := h.at4
  exact ⟨(key _ (by omega)).trans h.rd, (key _ (by omega)).trans h.ob, (key _ (by omega)).trans h.rb, h.bl.trans ⟨hg.1.os, hg.1.tape, hg.1.output, hg.1.size, fun j hj => key j (by omega)⟩, h4, Nat.le_trans h.sz hg.1.size⟩
/- the call of a function, at a step of a region that draws -/
theorem step_call {ops : Array Oper} {o : Oper} {a : Act} {W : World} {K : Act → World → Prop} {Q : Exit → Act → World → Prop} {E : Prop} {R : Value → World → Prop} (hgd : o.guard = none) (F : FuncId) (x : Operand) (T : TypeId)
    (ho : o.op = .call { callee := .value (.func F), args := #[x], argTypes := #[T] }) (v0 : Value) (hx : a.eval x = v0) (hcf : ∀ args W, (callFunc F args).run Tryd.prog W = .ok (.enter F args) W) (hC : Calls Tryd.prog F #[v0] W fun e w' => ∃ v, e = .returned v ∧ R v w')
    (h : ∀ v w', R v w' → K (a.put o.dst v) w') :
    if Region.wanted o (yielded ops a.tmps) = true then Oper.wp Tryd.prog o a W K Q else E := by
  have hw : Region.wanted o (yielded ops a.tmps) = true := by simp [Region.wanted, hgd]
  rw [if_pos hw]
  have hr : (execOp a.eval o).run Tryd.prog W = .ok (.enter F #[v0]) W := by
    have he : a.eval (.func F) = .func (.func F) #[] #[] := rfl
    unfold execOp
    simp only [ho, resolve, invoke, List.map_toArray, List.map_cons, List.map_nil, hx, he]
    exact hcf _ _
  unfold Oper.wp
  rw [hr, Oper.upon_enter]
  refine hC.mono ?_
  rintro e w' ⟨v, rfl, hR⟩
  exact h v w' hR
theorem enter_dot (args : Array Value) (W : World) : (callFunc 76 args).run Tryd.prog W = .ok (.enter 76 args) W := by
  first | kernel_rfl | simp [callFunc, go_sem, Tryd.func76]
theorem len_s (s : ByteArray) : s.toList.length = s.size := Om.len_eq s

set_option maxRecDepth 100000 in
set_option maxHeartbeats 8000000 in
theorem readOp_any (s : ByteArray) (w : World) (hs : s.size ≤ maxLen) :
    Calls Tryd.prog 60 #[.string s] w (Post s w) := by
  have hm := hs
  unfold maxLen at hm
  obtain ⟨F1, F2, F3, F4⟩ := first_worlds w s
  unfold Z6 at F1 F2 F3 F4
  obtain ⟨W0, hW0⟩ : ∃ W0, W0 = (w.alloc (.cells #[.int .i64 0, .int .i64 0, .int .i64 0, .string ⟨#[]⟩, .int .i64 0, .slice none 0 0] 53)).alloc (.cells #[.string s] 112) := ⟨_, rfl⟩
  rw [← hW0] at F1 F2 F3 F4
  have HW0 : Hid (W0 = (w.alloc (.cells #[.int .i64 0, .int .i64 0, .int .i64 0, .string ⟨#[]⟩, .int .i64 0, .slice none 0 0] 53)).alloc (.cells #[.string s] 112)) := hW0
  have HF2 : Hid (W0.heap[w.heap.size]? = some (.cells Z6 53 (0, 0))) := F2
  have HF3 : Hid (Below w.heap.size w W0) := F3
  have HF4 : Hid (W0.heap.size = w.heap.size + 2) := F4
  have HF1 : Hid (Rd W0 (w.heap.size + 1) (s.extract 0 s.size)) := F1
  clear F1 F2 F3 F4 hW0
  go_enter Tryd.func60, Tryd.ntmps60
  go_wp2_with fail
  rw [← HW0.out]
  clear HW0
  by_cases h1 : s.size < 0 + 1
  · refine (one_no _ s 0 W0 HF1.out (by omega) h1 hs).mono ?_
    rintro e w2 ⟨rfl, hw⟩
    have hw2 := hw.symm; subst hw2; clear hw
    have HN : Hid (decB s.toList = none) := dec_lt (Or.inl (by rw [len_s]; omega))
    go_wp2_with fail
    exact ⟨rfl, Post.no HN.out HF3.out⟩
  have h1p : 0 + 1 ≤ s.size := by omega
  obtain ⟨t, ht⟩ : ∃ t : Int, t = ((s.toList.getD 0 0).toNat : Int) := ⟨_, rfl⟩
  have C1 := one_ok _ s 0 W0 HF1.out h1p hs
  rw [← ht] at C1
  have ht0 : 0 ≤ t := by omega
  have ht1 : t < 256 := by rw [ht]; have := UInt8.toNat_lt (s.toList.getD 0 0); omega
  have HT : Hid (t = ((s.toList.getD 0 0).toNat : Int)) := ht
  clear ht h1 HF1
  refine C1.mono ?_
  rintro e w2 ⟨rfl, hr2, ho2⟩
  have HST : Hid (St w (w2.alloc (.cells #[.int .i64 0, .int .i64 0, .int .i64 t, .string ⟨#[]⟩, .int .i64 0, .slice none 0 0] 53)) s 1 w2.heap.size #[.int .i64 0, .int .i64 0, .int .i64 t, .string ⟨#[]⟩, .int .i64 0, .slice none 0 0]) := St.first HF2.out HF3.out HF4.out ho2 hr2 _
  clear hr2 ho2 C1 HF2 HF3 HF4
  go_wp2_with fail
  obtain ⟨h4, hh4⟩ : ∃ h4, h4 = w2.heap.size := ⟨_, rfl⟩
  obtain ⟨w3, hw3⟩ : ∃ w3, w3 = w2.alloc (.cells #[.int .i64 0, .int .i64 0, .int .i64 t, .string ⟨#[]⟩, .int .i64 0, .slice none 0 0] 53) := ⟨_, rfl⟩
  rw [← hh4, ← hw3] at HST
  rw [← hh4, ← hw3]
  clear hh4 hw3
  by_cases h2 : s.size < 1 + 3
  · refine (dot_no _ s 1 w3 HST.out.rd (by omega) h2 hs).mono ?_
    rintro e wx ⟨rfl, hg⟩
    have HB : Hid (Below w.heap.size w wx) := HST.out.bl.trans (grown_below hg (by omega) (by have := HST.out.sz; omega))
    have HN : Hid (decB s.toList = none) := dec_lt (Or.inl (by rw [len_s]; omega))
    clear hg
    go_wp2_with fail
    exact ⟨rfl, Post.no HN.out HB.out⟩
  have h2p : 1 + 3 ≤ s.size := by omega
  obtain ⟨a, ha⟩ : ∃ a : Int, a = ((s.toList.getD 1 0).toNat : Int) := ⟨_, rfl⟩
  obtain ⟨b, hb⟩ : ∃ b : Int, b = ((numAt s.toList 2 : Nat) : Int) := ⟨_, rfl⟩
  have C2 := dot_ok _ s 1 w3 HST.out.rd h2p hs
  rw [← ha, ← hb] at C2
  have HAB : Hid (a = ((s.toList.getD 1 0).toNat : Int) ∧ b = ((numAt s.toList 2 : Nat) : Int)) := ⟨ha, hb⟩
  clear ha hb h2
  refine C2.mono ?_
  rintro e w4 ⟨rfl, hr4, hg4⟩
  have HS4 : Hid (St w w4 s 4 h4 #[.int .i64 0, .int .i64 0, .int .i64 t, .string ⟨#[]⟩, .int .i64 0, .slice none 0 0]) := HST.out.grown hg4 hr4
  clear hr4 hg4 C2 HST
  have o0 : w4.cell? ⟨h4, 0, none⟩ = some (.int .i64 0) := cell_of HS4.out.ob rfl
  have o1 : w4.cell? ⟨h4, 1, none⟩ = some (.int .i64 0) := cell_of HS4.out.ob rfl
  have o2 : w4.cell? ⟨h4, 2, none⟩ = some (.int .i64 t) := cell_of HS4.out.ob rfl
  have o3 : w4.cell? ⟨h4, 3, none⟩ = some (.string ⟨#[]⟩) := cell_of HS4.out.ob rfl
  have o4 : w4.cell? ⟨h4, 4, none⟩ = some (.int .i64 0) := cell_of HS4.out.ob rfl
  have o5 : w4.cell? ⟨h4, 5, none⟩ = some (.slice none 0 0) := cell_of HS4.out.ob rfl
  have fo0 : w4.frozen? ⟨h4, 0, none⟩ = false := free_of HS4.out.ob
  have fo1 : w4.frozen? ⟨h4, 1, none⟩ = false := free_of HS4.out.ob
  have fo2 : w4.frozen? ⟨h4, 2, none⟩ = false := free_of HS4.out.ob
  have fo3 : w4.frozen? ⟨h4, 3, none⟩ = false := free_of HS4.out.ob
  have fo4 : w4.frozen? ⟨h4, 4, none⟩ = false := free_of HS4.out.ob
  have fo5 : w4.frozen? ⟨h4, 5, none⟩ = false := free_of HS4.out.ob
  go_wp2_with fail
  have HS5 : Hid (St w ((w4.setCell ⟨h4, 0, none⟩ (.int .i64 a)).setCell ⟨h4, 1, none⟩ (.int .i64 b)) s 4 h4 #[.int .i64 a, .int .i64 b, .int .i64 t, .string ⟨#[]⟩, .int .i64 0, .slice none 0 0]) := (HS4.out.set 0 _).set 1 _
  obtain ⟨w5, hw5⟩ : ∃ w5, w5 = ((w4.setCell ⟨h4, 0, none⟩ (.int .i64 a)).setCell ⟨h4, 1, none⟩ (.int .i64 b)) := ⟨_, rfl⟩
  rw [← hw5] at HS5
  rw [← hw5]
  clear hw5 HS4
  clear o0 o1 o2 o3 o4 o5 fo0 fo1 fo2 fo3 fo4 fo5
  by_cases h3 : s.size < 4 + 1
  · refine (one_no _ s 4 w5 HS5.out.rd (by omega) h3 hs).mono ?_
    rintro e w6 ⟨rfl, hw⟩
    have hw2 := hw.symm; subst hw2; clear hw
    have HN : Hid (decB s.toList = none) := dec_lt (Or.inl (by rw [len_s]; omega))
    go_wp2_with fail
    exact ⟨rfl, Post.no HN.out HS5.out.bl⟩
  have h3p : 4 + 1 ≤ s.size := by omega
  obtain ⟨L, hL⟩ : ∃ L : Nat, L = (s.toList.getD 4 0).toNat := ⟨_, rfl⟩
  have hL256 : L < 256 := by rw [hL]; exact UInt8.toNat_lt _
  have C3 := one_ok _ s 4 w5 HS5.out.rd h3p hs
  rw [← hL] at C3
  have HL : Hid (L = (s.toList.getD 4 0).toNat) := hL
  clear hL h3
  refine C3.mono ?_
  rintro e w6 ⟨rfl, hr6, ho6⟩
  have HS6 : Hid (St w w6 s 5 h4 #[.int .i64 a, .int .i64 b, .int .i64 t, .string ⟨#[]⟩, .int .i64 0, .slice none 0 0]) := HS5.out.only ho6 hr6
  clear hr6 ho6 C3 HS5
  go_wp2_with fail
  by_cases hE : s.size < 5 + L
  · refine (take_no _ s 5 L w6 HS6.out.rd (by omega) hE hs).mono ?_
    rintro e w7 ⟨rfl, hw⟩
    have hw2 := hw.symm; subst hw2; clear hw
    have HN : Hid (decB s.toList = none) := dec_lt (Or.inr (by rw [len_s, ← HL.out]; exact hE))
    go_wp2_with fail
    exact ⟨rfl, Post.no HN.out HS6.out.bl⟩
  have hEp : 5 + L ≤ s.size := by omega
  obtain ⟨E, hEe⟩ : ∃ E, E = 5 + L := ⟨_, rfl⟩
  obtain ⟨P, hP⟩ : ∃ P, P = s.extract 5 (5 + L) := ⟨_, rfl⟩
  have hPs : P.size ≤ 255 := by rw [hP, size_extract s 5 (5 + L) hEp]; omega
  have hPm : P.size ≤ maxLen := by unfold maxLen; omega
  have C4 := take_ok _ s 5 L w6 HS6.out.rd hEp hs
  rw [← hP, ← hEe] at C4
  have HRD := readB_at s E (by rw [hEe, HL.out]) (by omega)
  rw [← HT.out, ← HAB.out.1, ← HAB.out.2, show s.extract 5 E = P by rw [hP, hEe]] at HRD
  have HR0 : Hid (readB s.toList = ((a, b), t, P, letterIn t (s.toList.drop E), seenIn t (s.toList.drop E))) := HRD
  have HEL : Hid (E = 5 + (s.toList.getD 4 0).toNat) := by unfold Hid; rw [hEe, HL.out]
  have hEs : E ≤ s.size := by omega
  clear hP HRD hEp hE
  refine C4.mono ?_
  rintro e w7 ⟨rfl, hr7, ho7⟩
  have HS7 : Hid (St w w7 s E h4 #[.int .i64 a, .int .i64 b, .int .i64 t, .string ⟨#[]⟩, .int .i64 0, .slice none 0 0]) := HS6.out.only ho7 hr7
  clear hr7 ho7 C4 HS6 hEe
  go_wp2_with fail
  refine (clone_any P w7 hPs).mono ?_
  rintro e w8 ⟨rfl, hb8⟩
  have HS8 : Hid (St w w8 s E h4 #[.int .i64 a, .int .i64 b, .int .i64 t, .string ⟨#[]⟩, .int .i64 0, .slice none 0 0]) := HS7.out.below hb8
  clear hb8 HS7
  have o0 : w8.cell? ⟨h4, 0, none⟩ = some (.int .i64 a) := cell_of HS8.out.ob rfl
  have o1 : w8.cell? ⟨h4, 1, none⟩ = some (.int .i64 b) := cell_of HS8.out.ob rfl
  have o2 : w8.cell? ⟨h4, 2, none⟩ = some (.int .i64 t) := cell_of HS8.out.ob rfl
  have o3 : w8.cell? ⟨h4, 3, none⟩ = some (.string ⟨#[]⟩) := cell_of HS8.out.ob rfl
  have o4 : w8.cell? ⟨h4, 4, none⟩ = some (.int .i64 0) := cell_of HS8.out.ob rfl
  have o5 : w8.cell? ⟨h4, 5, none⟩ = some (.slice none 0 0) := cell_of HS8.out.ob rfl
  have fo0 : w8.frozen? ⟨h4, 0, none⟩ = false := free_of HS8.out.ob
  have fo1 : w8.frozen? ⟨h4, 1, none⟩ = false := free_of HS8.out.ob
  have fo2 : w8.frozen? ⟨h4, 2, none⟩ = false := free_of HS8.out.ob
  have fo3 : w8.frozen? ⟨h4, 3, none⟩ = false := free_of HS8.out.ob
  have fo4 : w8.frozen? ⟨h4, 4, none⟩ = false := free_of HS8.out.ob
  have fo5 : w8.frozen? ⟨h4, 5, none⟩ = false := free_of HS8.out.ob
  by_cases t1 : t = 1
  case pos =>
    subst t1
    go_wp2_with fail
    have HS9 : Hid (St w (w8.setCell ⟨h4, 3, none⟩ (.string P)) s E h4 #[.int .i64 a, .int .i64 b, .int .i64 1, .string P, .int .i64 0, .slice none 0 0]) := HS8.out.set 3 _
    obtain ⟨w9, hw9⟩ : ∃ w9, w9 = w8.setCell ⟨h4, 3, none⟩ (.string P) := ⟨_, rfl⟩
    rw [← hw9] at HS9
    rw [← hw9]
    clear hw9 HS8
    clear o0 o1 o2 o3 o4 o5 fo0 fo1 fo2 fo3 fo4 fo5
    by_cases h5 : s.size < E + 1
    · refine (one_no _ s E w9 HS9.out.rd hEs h5 hs).mono ?_
      rintro e wx ⟨rfl, hw⟩
      have hw2 := hw.symm; subst hw2; clear hw
      have HN : Hid (decB s.toList = none) := dec_short1 HT.out.symm (by rw [len_s, ← HEL.out]; exact h5)
      go_wp2_with fail
      exact ⟨rfl, Post.no HN.out HS9.out.bl⟩
    obtain ⟨c, hc⟩ : ∃ c : Int, c = ((s.toList.getD E 0).toNat : Int) := ⟨_, rfl⟩
    have C5 := one_ok _ s E w9 HS9.out.rd (by omega) hs
    rw [← hc] at C5
    have HX : Hid (readB s.toList = ((a, b), 1, P, c, [])) := by unfold Hid; rw [HR0.out, letter1, hc]; rfl
    clear hc h5 HR0
    refine C5.mono ?_
    rintro e wp ⟨rfl, hrp, hop'⟩
    have HSP : Hid (St w wp s (E + 1) h4 #[.int .i64 a, .int .i64 b, .int .i64 1, .string P, .int .i64 0, .slice none 0 0]) := HS9.out.only hop' hrp
    clear hrp hop' C5 HS9
    have o0 : wp.cell? ⟨h4, 0, none⟩ = some (.int .i64 a) := cell_of HSP.out.ob rfl
    have o1 : wp.cell? ⟨h4, 1, none⟩ = some (.int .i64 b) := cell_of HSP.out.ob rfl
    have o2 : wp.cell? ⟨h4, 2, none⟩ = some (.int .i64 1) := cell_of HSP.out.ob rfl
    have o3 : wp.cell? ⟨h4, 3, none⟩ = some (.string P) := cell_of HSP.out.ob rfl
    have o4 : wp.cell? ⟨h4, 4, none⟩ = some (.int .i64 0) := cell_of HSP.out.ob rfl
    have o5 : wp.cell? ⟨h4, 5, none⟩ = some (.slice none 0 0) := cell_of HSP.out.ob rfl
    have fo0 : wp.frozen? ⟨h4, 0, none⟩ = false := free_of HSP.out.ob
    have fo1 : wp.frozen? ⟨h4, 1, none⟩ = false := free_of HSP.out.ob
    have fo2 : wp.frozen? ⟨h4, 2, none⟩ = false := free_of HSP.out.ob
    have fo3 : wp.frozen? ⟨h4, 3, none⟩ = false := free_of HSP.out.ob
    have fo4 : wp.frozen? ⟨h4, 4, none⟩ = false := free_of HSP.out.ob
    have fo5 : wp.frozen? ⟨h4, 5, none⟩ = false := free_of HSP.out.ob
    go_wp2_with fail
    have HSX0 : Hid (St w (wp.setCell ⟨h4, 4, none⟩ (.int .i64 c)) s (E + 1) h4 #[.int .i64 a, .int .i64 b, .int .i64 1, .string P, .int .i64 c, .slice none 0 0]) := HSP.out.set 4 _
    obtain ⟨wq, hwq⟩ : ∃ wq, wq = wp.setCell ⟨h4, 4, none⟩ (.int .i64 c) := ⟨_, rfl⟩
    rw [← hwq] at HSX0
    rw [← hwq]
    have HSX := HSX0
    have HV : Hid (∀ W, (∀ k, w.heap.size + 3 ≤ k → k < wq.heap.size → W.heap[k]? = wq.heap[k]?) → DtsAt W (.slice none 0 0) []) := fun W _ => DtsAt.nil W
    clear hwq HSX0 HSP
    clear o0 o1 o2 o3 o4 o5 fo0 fo1 fo2 fo3 fo4 fo5
    have CE := encode_says a b 1 P c (.slice none 0 0) [] wq (HV.out wq (fun _ _ _ => rfl)) hPm
    by_cases hop : opE ((a, b), 1, P, c, []) = 0
    case neg =>
      obtain ⟨q, hq⟩ : ∃ q, q = opE ((a, b), 1, P, c, []) := ⟨_, rfl⟩
      have hTe : encS ((a, b), 1, P, c, []) = ⟨#[]⟩ := by unfold encS; rw [if_neg hop]
      rw [hTe, errV_ne hop, ← hq] at CE
      have HN : Hid (decB s.toList = none) := dec_none_of HX.out (fun e => hop e.1)
      clear hTe hq hop
      refine CE.mono ?_
      rintro e wy ⟨rfl, hby⟩
      have HBY : Hid (Below w.heap.size w wy) := bel HSX.out.bl hby
      clear hby CE
      go_wp2_with fail
      exact ⟨rfl, Post.no HN.out HBY.out⟩
    obtain ⟨T8, hT8⟩ : ∃ T8, T8 = bytesS ((a, b), 1, P, c, []) := ⟨_, rfl⟩
    have hTe : encS ((a, b), 1, P, c, []) = T8 := by unfold encS; rw [if_pos hop, hT8]
    rw [hTe, hop, errV_zero] at CE
    have HT8 : Hid (T8.toList = bytesB ((a, b), 1, P, c, [])) := by unfold Hid; rw [hT8, bytesS_list]
    have HOP : Hid (opE ((a, b), 1, P, c, []) = 0) := hop
    clear hTe hT8 hop
    refine CE.mono ?_
    rintro e wy ⟨rfl, hby⟩
    have HSY : Hid (St w wy s (E + 1) h4 #[.int .i64 a, .int .i64 b, .int .i64 1, .string P, .int .i64 c, .slice none 0 0]) := HSX.out.below hby
    have HKY : Hid (∀ k, w.heap.size + 3 ≤ k → k < wq.heap.size → wy.heap[k]? = wq.heap[k]?) := fun k _ hk => hby.block k hk
    have HZY : Hid (wq.heap.size ≤ wy.heap.size) := hby.size
    clear hby CE
    have x0 : wy.cell? ⟨h4, 0, none⟩ = some (.int .i64 a) := cell_of HSY.out.ob rfl
    have x1 : wy.cell? ⟨h4, 1, none⟩ = some (.int .i64 b) := cell_of HSY.out.ob rfl
    have x2 : wy.cell? ⟨h4, 2, none⟩ = some (.int .i64 1) := cell_of HSY.out.ob rfl
    have x3 : wy.cell? ⟨h4, 3, none⟩ = some (.string P) := cell_of HSY.out.ob rfl
    have x4 : wy.cell? ⟨h4, 4, none⟩ = some (.int .i64 c) := cell_of HSY.out.ob rfl
    have x5 : wy.cell? ⟨h4, 5, none⟩ = some (.slice none 0 0) := cell_of HSY.out.ob rfl
    have r0 : wy.cell? ⟨w.heap.size, 0, none⟩ = some (.int .i64 0) := cell_of HSY.out.rb rfl
    have r1 : wy.cell? ⟨w.heap.size, 1, none⟩ = some (.int .i64 0) := cell_of HSY.out.rb rfl
    have r2 : wy.cell? ⟨w.heap.size, 2, none⟩ = some (.int .i64 0) := cell_of HSY.out.rb rfl
    have r3 : wy.cell? ⟨w.heap.size, 3, none⟩ = some (.string ⟨#[]⟩) := cell_of HSY.out.rb rfl
    have r4 : wy.cell? ⟨w.heap.size, 4, none⟩ = some (.int .i64 0) := cell_of HSY.out.rb rfl
    have r5 : wy.cell? ⟨w.heap.size, 5, none⟩ = some (.slice none 0 0) := cell_of HSY.out.rb rfl
    have fr0 : wy.frozen? ⟨w.heap.size, 0, none⟩ = false := free_of HSY.out.rb
    have fr1 : wy.frozen? ⟨w.heap.size, 1, none⟩ = false := free_of HSY.out.rb
    have fr2 : wy.frozen? ⟨w.heap.size, 2, none⟩ = false := free_of HSY.out.rb
    have fr3 : wy.frozen? ⟨w.heap.size, 3, none⟩ = false := free_of HSY.out.rb
    have fr4 : wy.frozen? ⟨w.heap.size, 4, none⟩ = false := free_of HSY.out.rb
    have fr5 : wy.frozen? ⟨w.heap.size, 5, none⟩ = false := free_of HSY.out.rb
    by_cases hes : T8.toList = s.toList
    · have HE : Hid (decB s.toList = some ((a, b), 1, P, c, [])) := decB_iff.2 ⟨HOP.out, by rw [← HT8.out]; exact hes⟩
      have hesb : (T8.toList == s.toList) = true := by simpa using hes
      have HV9 : Hid (∀ x0 x1 x2 x3 x4 x5 W, (∀ k, w.heap.size ≤ k → k < (six6 wy w.heap.size x0 x1 x2 x3 x4 x5).heap.size → W.heap[k]? = (six6 wy w.heap.size x0 x1 x2 x3 x4 x5).heap[k]?) → DtsAt W (.slice none 0 0) ([])) := fun x0 x1 x2 x3 x4 x5 W hW => HV.out _ (fun k hk1 hk2 => (hW k (by omega) (by rw [six6_size]; exact Nat.lt_of_lt_of_le hk2 HZY.out)).trans ((six6_block _ _ _ _ _ _ _ _ _ (by omega)).trans (HKY.out k hk1 hk2)))
      clear hes
      go_wp2_with fail
      refine bodyPost_ret (v := opV ((a, b), 1, P, c, []) (.slice none 0 0)) ?_ rfl (Post.yes HE.out (fun W hW => ⟨_, rfl, HV9.out _ _ _ _ _ _ W hW⟩) ?_)
      · simp [results, Tryd.results60, opV, go_sem, asAddr, Result.andThen, r0, r1, r2, r3, r4, r5]
      · exact six6_below HSY.out.bl (Nat.le_refl _) _ _ _ _ _ _
    · have HN : Hid (decB s.toList = none) := dec_none_of HX.out (fun e => hes (HT8.out.trans e.2))
      have hesb : (T8.toList == s.toList) = false := by simpa using hes
      clear hes
      go_wp2_with fail
      exact ⟨rfl, Post.no HN.out HSY.out.bl⟩
  by_cases t4 : t = 4
  case neg =>
    have t1b : (t == 1) = false := by simpa using t1
    have t4b : (t == 4) = false := by simpa using t4
    have HX : Hid (readB s.toList = ((a, b), t, P, 0, [])) := by unfold Hid; rw [HR0.out]; unfold letterIn seenIn; rw [if_neg t1, if_neg t4]
    clear t1 t4 HR0
    go_wp2_with fail
    have HS9 : Hid (St w (w8.setCell ⟨h4, 3, none⟩ (.string P)) s E h4 #[.int .i64 a, .int .i64 b, .int .i64 t, .string P, .int .i64 0, .slice none 0 0]) := HS8.out.set 3 _
    obtain ⟨w9, hw9⟩ : ∃ w9, w9 = w8.setCell ⟨h4, 3, none⟩ (.string P) := ⟨_, rfl⟩
    rw [← hw9] at HS9
    rw [← hw9]
    have HSX := HS9
    have HV : Hid (∀ W, (∀ k, w.heap.size + 3 ≤ k → k < w9.heap.size → W.heap[k]? = w9.heap[k]?) → DtsAt W (.slice none 0 0) []) := fun W _ => DtsAt.nil W
    clear hw9 HS8 HS9
    clear o0 o1 o2 o3 o4 o5 fo0 fo1 fo2 fo3 fo4 fo5
    have CE := encode_says a b t P 0 (.slice none 0 0) [] w9 (HV.out w9 (fun _ _ _ => rfl)) hPm
    by_cases hop : opE ((a, b), t, P, 0, []) = 0
    case neg =>
      obtain ⟨q, hq⟩ : ∃ q, q = opE ((a, b), t, P, 0, []) := ⟨_, rfl⟩
      have hTe : encS ((a, b), t, P, 0, []) = ⟨#[]⟩ := by unfold encS; rw [if_neg hop]
      rw [hTe, errV_ne hop, ← hq] at CE
      have HN : Hid (decB s.toList = none) := dec_none_of HX.out (fun e => hop e.1)
      clear hTe hq hop
      refine CE.mono ?_
      rintro e wy ⟨rfl, hby⟩
      have HBY : Hid (Below w.heap.size w wy) := bel HSX.out.bl hby
      clear hby CE
      go_wp2_with fail
      exact ⟨rfl, Post.no HN.out HBY.out⟩
    obtain ⟨T8, hT8⟩ : ∃ T8, T8 = bytesS ((a, b), t, P, 0, []) := ⟨_, rfl⟩
    have hTe : encS ((a, b), t, P, 0, []) = T8 := by unfold encS; rw [if_pos hop, hT8]
    rw [hTe, hop, errV_zero] at CE
    have HT8 : Hid (T8.toList = bytesB ((a, b), t, P, 0, [])) := by unfold Hid; rw [hT8, bytesS_list]
    have HOP : Hid (opE ((a, b), t, P, 0, []) = 0) := hop
    clear hTe hT8 hop
    refine CE.mono ?_
    rintro e wy ⟨rfl, hby⟩
    have HSY : Hid (St w wy s E h4 #[.int .i64 a, .int .i64 b, .int .i64 t, .string P, .int .i64 0, .slice none 0 0]) := HSX.out.below hby
    have HKY : Hid (∀ k, w.heap.size + 3 ≤ k → k < w9.heap.size → wy.heap[k]? = w9.heap[k]?) := fun k _ hk => hby.block k hk
    have HZY : Hid (w9.heap.size ≤ wy.heap.size) := hby.size
    clear hby CE
    have x0 : wy.cell? ⟨h4, 0, none⟩ = some (.int .i64 a) := cell_of HSY.out.ob rfl
    have x1 : wy.cell? ⟨h4, 1, none⟩ = some (.int .i64 b) := cell_of HSY.out.ob rfl
    have x2 : wy.cell? ⟨h4, 2, none⟩ = some (.int .i64 t) := cell_of HSY.out.ob rfl
    have x3 : wy.cell? ⟨h4, 3, none⟩ = some (.string P) := cell_of HSY.out.ob rfl
    have x4 : wy.cell? ⟨h4, 4, none⟩ = some (.int .i64 0) := cell_of HSY.out.ob rfl
    have x5 : wy.cell? ⟨h4, 5, none⟩ = some (.slice none 0 0) := cell_of HSY.out.ob rfl
    have r0 : wy.cell? ⟨w.heap.size, 0, none⟩ = some (.int .i64 0) := cell_of HSY.out.rb rfl
    have r1 : wy.cell? ⟨w.heap.size, 1, none⟩ = some (.int .i64 0) := cell_of HSY.out.rb rfl
    have r2 : wy.cell? ⟨w.heap.size, 2, none⟩ = some (.int .i64 0) := cell_of HSY.out.rb rfl
    have r3 : wy.cell? ⟨w.heap.size, 3, none⟩ = some (.string ⟨#[]⟩) := cell_of HSY.out.rb rfl
    have r4 : wy.cell? ⟨w.heap.size, 4, none⟩ = some (.int .i64 0) := cell_of HSY.out.rb rfl
    have r5 : wy.cell? ⟨w.heap.size, 5, none⟩ = some (.slice none 0 0) := cell_of HSY.out.rb rfl
    have fr0 : wy.frozen? ⟨w.heap.size, 0, none⟩ = false := free_of HSY.out.rb
    have fr1 : wy.frozen? ⟨w.heap.size, 1, none⟩ = false := free_of HSY.out.rb
    have fr2 : wy.frozen? ⟨w.heap.size, 2, none⟩ = false := free_of HSY.out.rb
    have fr3 : wy.frozen? ⟨w.heap.size, 3, none⟩ = false := free_of HSY.out.rb
    have fr4 : wy.frozen? ⟨w.heap.size, 4, none⟩ = false := free_of HSY.out.rb
    have fr5 : wy.frozen? ⟨w.heap.size, 5, none⟩ = false := free_of HSY.out.rb
    by_cases hes : T8.toList = s.toList
    · have HE : Hid (decB s.toList = some ((a, b), t, P, 0, [])) := decB_iff.2 ⟨HOP.out, by rw [← HT8.out]; exact hes⟩
      have hesb : (T8.toList == s.toList) = true := by simpa using hes
      have HV9 : Hid (∀ x0 x1 x2 x3 x4 x5 W, (∀ k, w.heap.size ≤ k → k < (six6 wy w.heap.size x0 x1 x2 x3 x4 x5).heap.size → W.heap[k]? = (six6 wy w.heap.size x0 x1 x2 x3 x4 x5).heap[k]?) → DtsAt W (.slice none 0 0) ([])) := fun x0 x1 x2 x3 x4 x5 W hW => HV.out _ (fun k hk1 hk2 => (hW k (by omega) (by rw [six6_size]; exact Nat.lt_of_lt_of_le hk2 HZY.out)).trans ((six6_block _ _ _ _ _ _ _ _ _ (by omega)).trans (HKY.out k hk1 hk2)))
      clear hes
      go_wp2_with fail
      refine bodyPost_ret (v := opV ((a, b), t, P, 0, []) (.slice none 0 0)) ?_ rfl (Post.yes HE.out (fun W hW => ⟨_, rfl, HV9.out _ _ _ _ _ _ W hW⟩) ?_)
      · simp [results, Tryd.results60, opV, go_sem, asAddr, Result.andThen, r0, r1, r2, r3, r4, r5]
      · exact six6_below HSY.out.bl (Nat.le_refl _) _ _ _ _ _ _
    · have HN : Hid (decB s.toList = none) := dec_none_of HX.out (fun e => hes (HT8.out.trans e.2))
      have hesb : (T8.toList == s.toList) = false := by simpa using hes
      clear hes
      go_wp2_with fail
      exact ⟨rfl, Post.no HN.out HSY.out.bl⟩
  subst t4
  go_wp2_with fail
  have HS9 : Hid (St w (w8.setCell ⟨h4, 3, none⟩ (.string P)) s E h4 #[.int .i64 a, .int .i64 b, .int .i64 4, .string P, .int .i64 0, .slice none 0 0]) := HS8.out.set 3 _
  obtain ⟨w9, hw9⟩ : ∃ w9, w9 = w8.setCell ⟨h4, 3, none⟩ (.string P) := ⟨_, rfl⟩
  rw [← hw9] at HS9
  rw [← hw9]
  clear hw9 HS8 t1
  clear o0 o1 o2 o3 o4 o5 fo0 fo1 fo2 fo3 fo4 fo5
  by_cases h5 : s.size < E + 1
  · refine (one_no _ s E w9 HS9.out.rd hEs h5 hs).mono ?_
    rintro e wx ⟨rfl, hw⟩
    have hw2 := hw.symm; subst hw2; clear hw
    have HN : Hid (decB s.toList = none) := dec_short4 HT.out.symm (by rw [len_s, ← HEL.out]; exact h5)
    go_wp2_with fail
    exact ⟨rfl, Post.no HN.out HS9.out.bl⟩
  have h5p : E + 1 ≤ s.size := by omega
  obtain ⟨n, hn⟩ : ∃ n : Nat, n = (s.toList.getD E 0).toNat := ⟨_, rfl⟩
  have hn256 : n < 256 := by rw [hn]; exact UInt8.toNat_lt _
  have C5 := one_ok _ s E w9 HS9.out.rd h5p hs
  rw [← hn] at C5
  have HX4 : Hid (readB s.toList = ((a, b), 4, P, 0, threes n (s.toList.drop (E + 1)))) := by unfold Hid; rw [HR0.out, seen4, ← hn]; rfl
  have HNN : Hid (n = (s.toList.getD E 0).toNat) := hn
  have HS0 : Hid (∀ k, k < n → s.size < E + 1 + 3 * k + 3 → decB s.toList = none) := fun k hk h => dec_short4n HEL.out HT.out.symm (by rw [len_s, ← HNN.out]; omega)
  clear hn h5 HR0
  refine C5.mono ?_
  rintro e wp ⟨rfl, hrp, hop'⟩
  have HSP : Hid (St w wp s (E + 1 + 3 * 0) h4 #[.int .i64 a, .int .i64 b, .int .i64 4, .string P, .int .i64 0, .slice none 0 0]) := HS9.out.only hop' hrp
  have HRW : Hid (wp.ownsRow (w.heap.size + 3) 24 2 (.slice none 0 0) (threes 0 (s.toList.drop (E + 1))).length (flatD (threes 0 (s.toList.drop (E + 1))))) := by
    unfold Hid; rw [threes_zero]; exact World.ownsRow_nil _ _ _ _
  clear hrp hop' C5 HS9
  go_wp2_with fail
  go_loopw [26] (fun i wr => ∃ (k : Nat) (vs : Value), k ≤ n ∧ i = .int .i64 k ∧ (∃ pv Nv cv, vs = .slice pv Nv cv) ∧ Hid (St w wr s (E + 1 + 3 * k) h4 #[.int .i64 a, .int .i64 b, .int .i64 4, .string P, .int .i64 0, vs]) ∧ Hid (wr.ownsRow (w.heap.size + 3) 24 2 vs (threes k (s.toList.drop (E + 1))).length (flatD (threes k (s.toList.drop (E + 1))))) ∧ Hid (E + 1 + 3 * k ≤ s.size)) (fun i _ => n - (intOf i).toNat)
  case atStart => exact ⟨0, _, by omega, rfl, ⟨_, _, _, rfl⟩, HSP, HRW, h5p⟩
  case round =>
    clear HSP HRW
    obtain ⟨k, vs, hk, rfl, ⟨pv, Nv, cv, rfl⟩, HSP, HRW, HKS⟩ := hrel
    by_cases hlt : k < n
    · have hltz : (k : Int) < n := by omega
      have q5 : wr.cell? ⟨h4, 5, none⟩ = some (.slice pv Nv cv) := cell_of HSP.out.ob rfl
      have fq5 : wr.frozen? ⟨h4, 5, none⟩ = false := free_of HSP.out.ob
      by_cases hk3 : s.size < E + 1 + 3 * k + 3
      · have HN : Hid (decB s.toList = none) := HS0.out k hlt hk3
        go_wp2_with fail
        go_region_dies
        all_goals
          go_wp2_with fail
          refine (dot_no _ s (E + 1 + 3 * k) _ ?_ HKS.out hk3 hs).mono ?_
          exact HSP.out.rd
          rintro e w7 ⟨rfl, hg7⟩
          have HB7 : Hid (Below w.heap.size w w7) := HSP.out.bl.trans (grown_below (grown_un hg7) (by omega) (by have := HSP.out.sz; omega))
          clear hg7
          go_wp2_with fail
          exact ⟨rfl, Post.no HN.out HB7.out⟩
      · have hk3p : E + 1 + 3 * k + 3 ≤ s.size := by omega
        have HKS2 : Hid (E + 1 + 3 * (k + 1) ≤ s.size) := by unfold Hid; omega
        obtain ⟨x, hx⟩ : ∃ x : Int, x = ((s.toList.getD (E + 1 + 3 * k) 0).toNat : Int) := ⟨_, rfl⟩
        obtain ⟨y, hy⟩ : ∃ y : Int, y = ((numAt s.toList (E + 1 + 3 * k + 1) : Nat) : Int) := ⟨_, rfl⟩
        have CD : Hid (∀ W, Rd W (w.heap.size + 1) (s.extract (E + 1 + 3 * k) s.size) → Calls Tryd.prog 76 #[.pointer (some ⟨w.heap.size + 1, 0, none⟩)] W fun e w' => ∃ v, e = .returned v ∧ v = .agg #[.int .i64 x, .int .i64 y] ∧ Rd w' (w.heap.size + 1) (s.extract (E + 1 + 3 * (k + 1)) s.size) ∧ W.grownBy w' (some (w.heap.size + 1))) := by
          intro W h
          have := dot_ok _ s (E + 1 + 3 * k) W h hk3p hs
          rw [← hx, ← hy] at this
          exact this.mono fun e w' ⟨h1, h2⟩ => ⟨_, h1, rfl, h2⟩
        have HTS : Hid (threes (k + 1) (s.toList.drop (E + 1)) = threes k (s.toList.drop (E + 1)) ++ [(x, y)]) := by
          unfold Hid; rw [threes_snoc s.toList k (E + 1) (by rw [len_s]; omega), hx, hy]
        obtain ⟨Q, hQ⟩ : ∃ Q, Q = threes k (s.toList.drop (E + 1)) := ⟨_, rfl⟩
        have HQL : Hid (Q.length + 1 ≤ 1000000) := by unfold Hid; rw [hQ, threes_len]; omega
        rw [← hQ] at HRW HTS
        clear hx hy hQ
        go_wp2_with fail
        go_region_law (first
          | ((refine step_call (by rfl) 76 (.tmp 3) _ (by rfl) _ (by rfl) enter_dot (CD.out _ ?_) ?_; exact HSP.out.rd; rintro v7 w7 ⟨rfl, hr7, hg7⟩; have HS7 : Hid (St w w7 s (E + 1 + 3 * (k + 1)) h4 #[.int .i64 a, .int .i64 b, .int .i64 4, .string P, .int .i64 0, .slice pv Nv cv]) := HSP.out.grown (grown_un hg7) hr7; have HO7 : Hid (w7.ownsRow (w.heap.size + 3) 24 2 (.slice pv Nv cv) Q.length (flatD Q)) := own_grown HRW.out hg7; have HA7 : Hid (∀ O, St w (w7.alloc O) s (E + 1 + 3 * (k + 1)) h4 #[.int .i64 a, .int .i64 b, .int .i64 4, .string P, .int .i64 0, .slice pv Nv cv]) := fun O => HS7.out.below ((Below.refl _ w7).alloc (Nat.le_refl _) O); have HOA : Hid (∀ O, (w7.alloc O).ownsRow (w.heap.size + 3) 24 2 (.slice pv Nv cv) Q.length (flatD Q)) := fun O => World.ownsRow.alloc HO7.out O; have q7 : w7.cell? ⟨h4, 5, none⟩ = some (.slice pv Nv cv) := cell_of HS7.out.ob rfl; have q8 : ∀ O, (w7.alloc O).cell? ⟨h4, 5, none⟩ = some (.slice pv Nv cv) := fun O => cell_of (HA7.out O).ob rfl))
          | ((refine step_putD (by rfl) (.tmp 29) (.tmp 31) (by rfl) (w.heap.size + 3) (.slice pv Nv cv) Q (x, y) (by rfl) w7.heap.size (by rfl) HQL.out (HOA.out _) ((HA7.out _).sz) (two_new w7 _ _ _).1 (two_new w7 _ _ _).2 ?_; intro v9 w9 ho9 hg9; obtain ⟨p9, N9, c9, rfl, _⟩ := own_shape ho9; have HS9 : Hid (St w w9 s (E + 1 + 3 * (k + 1)) h4 #[.int .i64 a, .int .i64 b, .int .i64 4, .string P, .int .i64 0, .slice pv Nv cv]) := St.grew (HA7.out _) (HOA.out _) hg9; have HO9 : Hid (w9.ownsRow (w.heap.size + 3) 24 2 (.slice p9 N9 c9) (Q ++ [(x, y)]).length (flatD (Q ++ [(x, y)]))) := ho9; have q9 : w9.cell? ⟨h4, 5, none⟩ = some (.slice pv Nv cv) := cell_of HS9.out.ob rfl; have fq9 : w9.frozen? ⟨h4, 5, none⟩ = false := free_of HS9.out.ob)))
        all_goals
          have HSN : Hid (St w (w9.setCell ⟨h4, 5, none⟩ (.slice p9 N9 c9)) s (E + 1 + 3 * (k + 1)) h4 #[.int .i64 a, .int .i64 b, .int .i64 4, .string P, .int .i64 0, .slice p9 N9 c9]) := HS9.out.set 5 _
          have HON : Hid ((w9.setCell ⟨h4, 5, none⟩ (.slice p9 N9 c9)).ownsRow (w.heap.size + 3) 24 2 (.slice p9 N9 c9) (threes (k + 1) (s.toList.drop (E + 1))).length (flatD (threes (k + 1) (s.toList.drop (E + 1))))) := by
            unfold Hid; rw [HTS.out]; exact own_same HO9.out (fun j hj _ => set_block _ _ _ _ (by have := HS9.out.at4; simp; omega))
          clear ho9 hg9 hr7 hg7
          go_wp2_with fail
          go_roundw
          case rel => exact ⟨k + 1, _, by omega, by go_num, ⟨_, _, _, rfl⟩, HSN, HON, HKS2⟩
          case measure => simp [intOf]; omega
    · obtain rfl : n = k := by omega
      have hltz : ¬ (n : Int) < n := by omega
      have HSX := HSP
      have HX := HX4
      obtain ⟨Q, hQ⟩ : ∃ Q, Q = threes n (s.toList.drop (E + 1)) := ⟨_, rfl⟩
      rw [← hQ] at HX HRW
      have HV : Hid (∀ W, (∀ k, w.heap.size + 3 ≤ k → k < wr.heap.size → W.heap[k]? = wr.heap[k]?) → DtsAt W (.slice pv Nv cv) Q) := fun W h => own_dts (own_same HRW.out h)
      clear hQ HX4 HSP HS0
      have o0 : wr.cell? ⟨h4, 0, none⟩ = some (.int .i64 a) := cell_of HSX.out.ob rfl
      have o1 : wr.cell? ⟨h4, 1, none⟩ = some (.int .i64 b) := cell_of HSX.out.ob rfl
      have o2 : wr.cell? ⟨h4, 2, none⟩ = some (.int .i64 4) := cell_of HSX.out.ob rfl
      have o3 : wr.cell? ⟨h4, 3, none⟩ = some (.string P) := cell_of HSX.out.ob rfl
      have o4 : wr.cell? ⟨h4, 4, none⟩ = some (.int .i64 0) := cell_of HSX.out.ob rfl
      have o5 : wr.cell? ⟨h4, 5, none⟩ = some (.slice pv Nv cv) := cell_of HSX.out.ob rfl
      have fo0 : wr.frozen? ⟨h4, 0, none⟩ = false := free_of HSX.out.ob
      have fo1 : wr.frozen? ⟨h4, 1, none⟩ = false := free_of HSX.out.ob
      have fo2 : wr.frozen? ⟨h4, 2, none⟩ = false := free_of HSX.out.ob
      have fo3 : wr.frozen? ⟨h4, 3, none⟩ = false := free_of HSX.out.ob
      have fo4 : wr.frozen? ⟨h4, 4, none⟩ = false := free_of HSX.out.ob
      have fo5 : wr.frozen? ⟨h4, 5, none⟩ = false := free_of HSX.out.ob
      go_wp2_with fail
      clear o0 o1 o2 o3 o4 o5 fo0 fo1 fo2 fo3 fo4 fo5
      have CE := encode_says a b 4 P 0 (.slice pv Nv cv) Q wr (HV.out wr (fun _ _ _ => rfl)) hPm
      by_cases hop : opE ((a, b), 4, P, 0, Q) = 0
      case neg =>
        obtain ⟨q, hq⟩ : ∃ q, q = opE ((a, b), 4, P, 0, Q) := ⟨_, rfl⟩
        have hTe : encS ((a, b), 4, P, 0, Q) = ⟨#[]⟩ := by unfold encS; rw [if_neg hop]
        rw [hTe, errV_ne hop, ← hq] at CE
        have HN : Hid (decB s.toList = none) := dec_none_of HX.out (fun e => hop e.1)
        clear hTe hq hop
        refine CE.mono ?_
        rintro e wy ⟨rfl, hby⟩
        have HBY : Hid (Below w.heap.size w wy) := bel HSX.out.bl hby
        clear hby CE
        go_wp2_with fail
        exact ⟨rfl, Post.no HN.out HBY.out⟩
      obtain ⟨T8, hT8⟩ : ∃ T8, T8 = bytesS ((a, b), 4, P, 0, Q) := ⟨_, rfl⟩
      have hTe : encS ((a, b), 4, P, 0, Q) = T8 := by unfold encS; rw [if_pos hop, hT8]
      rw [hTe, hop, errV_zero] at CE
      have HT8 : Hid (T8.toList = bytesB ((a, b), 4, P, 0, Q)) := by unfold Hid; rw [hT8, bytesS_list]
      have HOP : Hid (opE ((a, b), 4, P, 0, Q) = 0) := hop
      clear hTe hT8 hop
      refine CE.mono ?_
      rintro e wy ⟨rfl, hby⟩
      have HSY : Hid (St w wy s (E + 1 + 3 * n) h4 #[.int .i64 a, .int .i64 b, .int .i64 4, .string P, .int .i64 0, .slice pv Nv cv]) := HSX.out.below hby
      have HKY : Hid (∀ k, w.heap.size + 3 ≤ k → k < wr.heap.size → wy.heap[k]? = wr.heap[k]?) := fun k _ hk => hby.block k hk
      have HZY : Hid (wr.heap.size ≤ wy.heap.size) := hby.size
      clear hby CE
      have x0 : wy.cell? ⟨h4, 0, none⟩ = some (.int .i64 a) := cell_of HSY.out.ob rfl
      have x1 : wy.cell? ⟨h4, 1, none⟩ = some (.int .i64 b) := cell_of HSY.out.ob rfl
      have x2 : wy.cell? ⟨h4, 2, none⟩ = some (.int .i64 4) := cell_of HSY.out.ob rfl
      have x3 : wy.cell? ⟨h4, 3, none⟩ = some (.string P) := cell_of HSY.out.ob rfl
      have x4 : wy.cell? ⟨h4, 4, none⟩ = some (.int .i64 0) := cell_of HSY.out.ob rfl
      have x5 : wy.cell? ⟨h4, 5, none⟩ = some (.slice pv Nv cv) := cell_of HSY.out.ob rfl
      have r0 : wy.cell? ⟨w.heap.size, 0, none⟩ = some (.int .i64 0) := cell_of HSY.out.rb rfl
      have r1 : wy.cell? ⟨w.heap.size, 1, none⟩ = some (.int .i64 0) := cell_of HSY.out.rb rfl
      have r2 : wy.cell? ⟨w.heap.size, 2, none⟩ = some (.int .i64 0) := cell_of HSY.out.rb rfl
      have r3 : wy.cell? ⟨w.heap.size, 3, none⟩ = some (.string ⟨#[]⟩) := cell_of HSY.out.rb rfl
      have r4 : wy.cell? ⟨w.heap.size, 4, none⟩ = some (.int .i64 0) := cell_of HSY.out.rb rfl
      have r5 : wy.cell? ⟨w.heap.size, 5, none⟩ = some (.slice none 0 0) := cell_of HSY.out.rb rfl
      have fr0 : wy.frozen? ⟨w.heap.size, 0, none⟩ = false := free_of HSY.out.rb
      have fr1 : wy.frozen? ⟨w.heap.size, 1, none⟩ = false := free_of HSY.out.rb
      have fr2 : wy.frozen? ⟨w.heap.size, 2, none⟩ = false := free_of HSY.out.rb
      have fr3 : wy.frozen? ⟨w.heap.size, 3, none⟩ = false := free_of HSY.out.rb
      have fr4 : wy.frozen? ⟨w.heap.size, 4, none⟩ = false := free_of HSY.out.rb
      have fr5 : wy.frozen? ⟨w.heap.size, 5, none⟩ = false := free_of HSY.out.rb
      by_cases hes : T8.toList = s.toList
      · have HE : Hid (decB s.toList = some ((a, b), 4, P, 0, Q)) := decB_iff.2 ⟨HOP.out, by rw [← HT8.out]; exact hes⟩
        have hesb : (T8.toList == s.toList) = true := by simpa using hes
        have HV9 : Hid (∀ x0 x1 x2 x3 x4 x5 W, (∀ k, w.heap.size ≤ k → k < (six6 wy w.heap.size x0 x1 x2 x3 x4 x5).heap.size → W.heap[k]? = (six6 wy w.heap.size x0 x1 x2 x3 x4 x5).heap[k]?) → DtsAt W (.slice pv Nv cv) (Q)) := fun x0 x1 x2 x3 x4 x5 W hW => HV.out _ (fun k hk1 hk2 => (hW k (by omega) (by rw [six6_size]; exact Nat.lt_of_lt_of_le hk2 HZY.out)).trans ((six6_block _ _ _ _ _ _ _ _ _ (by omega)).trans (HKY.out k hk1 hk2)))
        clear hes
        go_wp2_with fail
        refine bodyPost_ret (v := opV ((a, b), 4, P, 0, Q) (.slice pv Nv cv)) ?_ rfl (Post.yes HE.out (fun W hW => ⟨_, rfl, HV9.out _ _ _ _ _ _ W hW⟩) ?_)
        · simp [results, Tryd.results60, opV, go_sem, asAddr, Result.andThen, r0, r1, r2, r3, r4, r5]
        · exact six6_below HSY.out.bl (Nat.le_refl _) _ _ _ _ _ _
      · have HN : Hid (decB s.toList = none) := dec_none_of HX.out (fun e => hes (HT8.out.trans e.2))
        have hesb : (T8.toList == s.toList) = false := by simpa using hes
        clear hes
        go_wp2_with fail
        exact ⟨rfl, Post.no HN.out HSY.out.bl⟩

end Vj
end Go.Proofs.YtcmoajlcmeimiaaDoor
