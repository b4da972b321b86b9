/- The walk of BookEither. -/
import Derived.Test.YtaefoieoachdfaaEa
import Derived.Deep.DeepCutAuto
namespace Go.Proofs.Ytaefoieoachdfaa
namespace Eb
set_option linter.unusedVariables false
open Go.ChangeShapes Go.WideShapes Go.ChangeAt Go.RowKit Bm Ka Kb La Lb Lc Ld Le Lf Lg Lh Li Lj Lk Ea

set_option maxRecDepth 100000 in
set_option maxHeartbeats 8000000 in
theorem walk_no (v : Value) (l : List Leaf) (p q : ByteArray) (c o : Int) (w : World) (h : BookAt w v l) (hs : ∀ x ∈ l, x.1.size ≤ maxLen) (hp : p.size ≤ maxLen) (hq : q.size ≤ maxLen) (hne : writeE l p c ≠ 0) :
    Calls Try.prog 3 #[v, .string p, .string q, .int .i64 c, .int .i64 o] w fun e w' => e = .returned (.bool true) ∧ Below w.heap.size w w' := by
  have C1 := write_any (.slice none 0 0) [] nb 104 w (BookAt.nil w) (by intro x hx; simp at hx) (by unfold maxLen; decide)
  rw [nb_write.1, nb_write.2, errV_zero] at C1
  have HCA : Hid (∀ W, Below w.heap.size w W → Calls Try.prog 5 #[v, .string p, .int .i64 c] W fun e w' => ∃ v', e = .returned (.tuple #[v', errV (writeE l p c)]) ∧ BookAt w' v' (writeL l p c) ∧ Below W.heap.size W w') := fun W hb => write_any v l p c W (h.below hb) hs hp
  have HCC : Hid (∀ W, Below w.heap.size w W → Calls Try.prog 6 #[v, .string q] W fun e w' => ∃ v', e = .returned (.tuple #[v', errV (strikeE l q)]) ∧ BookAt w' v' (strikeL l q) ∧ Below W.heap.size W w') := fun W hb => strike_any v l q W (h.below hb) hs hq
  have HCE : Hid (∀ W, Below w.heap.size w W → Calls Try.prog 5 #[v, .string q, .int .i64 o] W fun e w' => ∃ v', e = .returned (.tuple #[v', errV (writeE l q o)]) ∧ BookAt w' v' (writeL l q o) ∧ Below W.heap.size W w') := fun W hb => write_any v l q o W (h.below hb) hs hq
  have HS : Hid ((∀ x ∈ writeL l p c, x.1.size ≤ maxLen) ∧ (∀ x ∈ strikeL l q, x.1.size ≤ maxLen) ∧ (∀ x ∈ writeL l q o, x.1.size ≤ maxLen) ∧ p.size ≤ maxLen ∧ q.size ≤ maxLen) := ⟨write_size c hs hp, strike_size hs hq, write_size o hs hq, hp, hq⟩
  obtain ⟨k, hk⟩ : ∃ k, k = writeE l p c := ⟨_, rfl⟩
  rw [errV_ne hne, ← hk] at HCA
  clear h hs hp hq hne hk
  go_enter Try.func3, Try.ntmps3
  go_wp2_with fail
  refine C1.mono ?_
  rintro e w1 ⟨v1, rfl, hk1, hb1⟩
  have HB1 : Hid (Below w.heap.size w w1) := hb1
  obtain ⟨p1, c1, rfl, hl1, hc1, hc2, _⟩ := hk1
  obtain ⟨b1, o1, rfl, ha1⟩ := hl1.some (by simp)
  obtain ⟨a1, a2, a3⟩ := ha1 0 (by simp)
  simp only [List.getD_cons_zero, Nat.zero_mul, Nat.add_zero] at a1 a2 a3
  simp only [List.length_singleton]
  clear C1 hb1 hl1 ha1 hc1 hc2
  have C2 := HCA.out w1 HB1.out
  go_wp2_with fail
  refine C2.mono ?_
  rintro e w2 ⟨va, rfl, hk2, hb2⟩
  have HB2 : Hid (Below w.heap.size w w2) := bel HB1.out hb2
  have HKA : Hid (BookAt w2 va (writeL l p c)) := hk2
  have C3 := strike_any va _ q w2 hk2 HS.out.1 HS.out.2.2.2.2
  generalize errV (strikeE (writeL l p c) q) = e2 at C3
  clear C2 hb2 hk2 a1 a2 a3
  go_wp2_with fail
  refine C3.mono ?_
  rintro e w3 ⟨vb, rfl, hk3, hb3⟩
  have HB3 : Hid (Below w.heap.size w w3) := bel HB2.out hb3
  have HKA3 : Hid (BookAt w3 va (writeL l p c)) := HKA.out.below hb3
  have C4 := HCC.out w3 HB3.out
  generalize errV (strikeE l q) = e3 at C4
  clear C3 hb3 hk3 HKA
  go_wp2_with fail
  refine C4.mono ?_
  rintro e w4 ⟨vc, rfl, hk4, hb4⟩
  have HB4 : Hid (Below w.heap.size w w4) := bel HB3.out hb4
  have HKA4 : Hid (BookAt w4 va (writeL l p c)) := HKA3.out.below hb4
  have C5 := write_any vc _ p c w4 hk4 HS.out.2.1 HS.out.2.2.2.1
  generalize errV (writeE (strikeL l q) p c) = e4 at C5
  clear C4 hb4 hk4 HKA3
  go_wp2_with fail
  refine C5.mono ?_
  rintro e w5 ⟨vd, rfl, hk5, hb5⟩
  have HB5 : Hid (Below w.heap.size w w5) := bel HB4.out hb5
  have HKA5 : Hid (BookAt w5 va (writeL l p c)) := HKA4.out.below hb5
  have C6 := write_any va _ q o w5 HKA5.out HS.out.1 HS.out.2.2.2.2
  generalize errV (writeE (writeL l p c) q o) = e6 at C6
  clear C5 hb5 hk5 HKA4
  go_wp2_with fail
  refine C6.mono ?_
  rintro e w6 ⟨vf, rfl, hk6, hb6⟩
  have HB6 : Hid (Below w.heap.size w w6) := bel HB5.out hb6
  have C7 := HCE.out w6 HB6.out
  generalize errV (writeE l q o) = e7 at C7
  clear C6 hb6 hk6 HKA5
  go_wp2_with fail
  refine C7.mono ?_
  rintro e w7 ⟨vg, rfl, hk7, hb7⟩
  have HB7 : Hid (Below w.heap.size w w7) := bel HB6.out hb7
  have C8 := write_any vg _ p c w7 hk7 HS.out.2.2.1 HS.out.2.2.2.1
  generalize errV (writeE (writeL l q o) p c) = e8 at C8
  clear C7 hb7 hk7
  go_wp2_with fail
  refine C8.mono ?_
  rintro e w8 ⟨vh, rfl, hk8, hb8⟩
  have HB8 : Hid (Below w.heap.size w w8) := bel HB7.out hb8
  clear C8 hb8 hk8
  go_wp2_with fail
  go_ret
  exact ⟨rfl, HB8.out⟩

set_option maxRecDepth 100000 in
set_option maxHeartbeats 8000000 in
theorem walk_ok (v : Value) (l : List Leaf) (p q : ByteArray) (c o : Int) (w : World) (h : BookAt w v l) (hs : ∀ x ∈ l, x.1.size ≤ maxLen) (hp : p.size ≤ maxLen) (hq : q.size ≤ maxLen) (h0 : writeE l p c = 0) :
    Calls Try.prog 3 #[v, .string p, .string q, .int .i64 c, .int .i64 o] w fun e w' => e = .returned (.bool true) ∧ Below w.heap.size w w' := by
  have C1 := write_any (.slice none 0 0) [] nb 104 w (BookAt.nil w) (by intro x hx; simp at hx) (by unfold maxLen; decide)
  rw [nb_write.1, nb_write.2, errV_zero] at C1
  have HCA : Hid (∀ W, Below w.heap.size w W → Calls Try.prog 5 #[v, .string p, .int .i64 c] W fun e w' => ∃ v', e = .returned (.tuple #[v', errV (writeE l p c)]) ∧ BookAt w' v' (writeL l p c) ∧ Below W.heap.size W w') := fun W hb => write_any v l p c W (h.below hb) hs hp
  have HCC : Hid (∀ W, Below w.heap.size w W → Calls Try.prog 6 #[v, .string q] W fun e w' => ∃ v', e = .returned (.tuple #[v', errV (strikeE l q)]) ∧ BookAt w' v' (strikeL l q) ∧ Below W.heap.size W w') := fun W hb => strike_any v l q W (h.below hb) hs hq
  have HCE : Hid (∀ W, Below w.heap.size w W → Calls Try.prog 5 #[v, .string q, .int .i64 o] W fun e w' => ∃ v', e = .returned (.tuple #[v', errV (writeE l q o)]) ∧ BookAt w' v' (writeL l q o) ∧ Below W.heap.size W w') := fun W hb => write_any v l q o W (h.below hb) hs hq
  have HS : Hid ((∀ x ∈ writeL l p c, x.1.size ≤ maxLen) ∧ (∀ x ∈ strikeL l q, x.1.size ≤ maxLen) ∧ (∀ x ∈ writeL l q o, x.1.size ≤ maxLen) ∧ p.size ≤ maxLen ∧ q.size ≤ maxLen) := ⟨write_size c hs hp, strike_size hs hq, write_size o hs hq, hp, hq⟩
  obtain ⟨i, kk, T, s0, HTL⟩ := tail_of h0
  have HTAIL : Hid (Tail l p c (writeL l p c) i kk T s0) := HTL
  have H0 : Hid (writeE l p c = 0) := h0
  rw [h0, errV_zero] at HCA
  clear h hs hp hq h0 HTL
  go_enter Try.func3, Try.ntmps3
  go_wp2_with fail
  refine C1.mono ?_
  rintro e w1 ⟨v1, rfl, hk1, hb1⟩
  have HB1 : Hid (Below w.heap.size w w1) := hb1
  obtain ⟨p1, c1, rfl, hl1, hc1, hc2, _⟩ := hk1
  obtain ⟨b1, o1, rfl, ha1⟩ := hl1.some (by simp)
  obtain ⟨a1, a2, a3⟩ := ha1 0 (by simp)
  simp only [List.getD_cons_zero, Nat.zero_mul, Nat.add_zero] at a1 a2 a3
  simp only [List.length_singleton]
  clear C1 hb1 hl1 ha1 hc1 hc2
  have C2 := HCA.out w1 HB1.out
  go_wp2_with fail
  refine C2.mono ?_
  rintro e w2 ⟨va, rfl, hk2, hb2⟩
  have HB2 : Hid (Below w.heap.size w w2) := bel HB1.out hb2
  have HKA : Hid (BookAt w2 va (writeL l p c)) := hk2
  have C3 := strike_any va _ q w2 hk2 HS.out.1 HS.out.2.2.2.2
  have q2 : ∀ W, (binOp .eql 24 (errV (strikeE (writeL l p c) q)) .nilIface).run Try.prog W = .ok (.bool ((strikeE (writeL l p c) q) == 0)) W := fun W => err_nil _ W
  have g2 : ∀ (x : Nat) (W : World), (eqGuard .eql 24 (.tmp x) (.const .nilIface) (errV (strikeE (writeL l p c) q)) .nilIface).run Try.prog W = .ok () W := fun x W => err_guard _ x W
  have HT2 : Hid (((strikeE (writeL l p c) q) == 0) = true → strikeE (writeL l p c) q = 0) := fun h => by simpa using h
  generalize errV (strikeE (writeL l p c) q) = e2 at C3 q2 g2
  generalize ((strikeE (writeL l p c) q) == 0) = t2 at q2 HT2
  clear C2 hb2 hk2 a1 a2 a3
  go_wp2_with fail
  refine C3.mono ?_
  rintro e w3 ⟨vb, rfl, hk3, hb3⟩
  have HB3 : Hid (Below w.heap.size w w3) := bel HB2.out hb3
  have HKA3 : Hid (BookAt w3 va (writeL l p c)) := HKA.out.below hb3
  have HKB3 : Hid (BookAt w3 vb (strikeL (writeL l p c) q)) := hk3
  have C4 := HCC.out w3 HB3.out
  have q3 : ∀ W, (binOp .eql 24 (errV (strikeE l q)) .nilIface).run Try.prog W = .ok (.bool ((strikeE l q) == 0)) W := fun W => err_nil _ W
  have g3 : ∀ (x : Nat) (W : World), (eqGuard .eql 24 (.tmp x) (.const .nilIface) (errV (strikeE l q)) .nilIface).run Try.prog W = .ok () W := fun x W => err_guard _ x W
  have HT3 : Hid (((strikeE l q) == 0) = true → strikeE l q = 0) := fun h => by simpa using h
  generalize errV (strikeE l q) = e3 at C4 q3 g3
  generalize ((strikeE l q) == 0) = t3 at q3 HT3
  clear C3 hb3 hk3 HKA
  go_wp2_with fail
  refine C4.mono ?_
  rintro e w4 ⟨vc, rfl, hk4, hb4⟩
  have HB4 : Hid (Below w.heap.size w w4) := bel HB3.out hb4
  have HKA4 : Hid (BookAt w4 va (writeL l p c)) := HKA3.out.below hb4
  have HKB4 : Hid (BookAt w4 vb (strikeL (writeL l p c) q)) := HKB3.out.below hb4
  have C5 := write_any vc _ p c w4 hk4 HS.out.2.1 HS.out.2.2.2.1
  have q4 : ∀ W, (binOp .eql 24 (errV (writeE (strikeL l q) p c)) .nilIface).run Try.prog W = .ok (.bool ((writeE (strikeL l q) p c) == 0)) W := fun W => err_nil _ W
  have g4 : ∀ (x : Nat) (W : World), (eqGuard .eql 24 (.tmp x) (.const .nilIface) (errV (writeE (strikeL l q) p c)) .nilIface).run Try.prog W = .ok () W := fun x W => err_guard _ x W
  have HT4 : Hid (((writeE (strikeL l q) p c) == 0) = true → writeE (strikeL l q) p c = 0) := fun h => by simpa using h
  generalize errV (writeE (strikeL l q) p c) = e4 at C5 q4 g4
  generalize ((writeE (strikeL l q) p c) == 0) = t4 at q4 HT4
  clear C4 hb4 hk4 HKA3 HKB3
  go_wp2_with fail
  refine C5.mono ?_
  rintro e w5 ⟨vd, rfl, hk5, hb5⟩
  have HB5 : Hid (Below w.heap.size w w5) := bel HB4.out hb5
  have HKA5 : Hid (BookAt w5 va (writeL l p c)) := HKA4.out.below hb5
  have HKB5 : Hid (BookAt w5 vb (strikeL (writeL l p c) q)) := HKB4.out.below hb5
  have HKD5 : Hid (BookAt w5 vd (writeL (strikeL l q) p c)) := hk5
  clear C5 hb5 hk5 HKA4 HKB4
  go_upto_region 8 with fail
  go_cut [94] from 81 to 94 (fun s94 wx => ∃ t : Bool, s94 = .bool t ∧ Hid (t = true → t2 = true ∧ t3 = true ∧ t4 = true) ∧ w5 = wx)
  case first =>
    cases t2
    · go_wp2_with fail
      go_meet
      case rel => exact ⟨false, rfl, (fun h => by cases h), rfl⟩
    · cases t3
      · go_wp2_with fail
        go_meet
        case rel => exact ⟨false, rfl, (fun h => by cases h), rfl⟩
      · cases t4
        · go_wp2_with fail
          go_meet
          case rel => exact ⟨false, rfl, (fun h => by cases h), rfl⟩
        · go_wp2_with fail
          go_meet
          case rel => exact ⟨true, rfl, (fun _ => by simp), rfl⟩
  case rest =>
  obtain ⟨t, rfl, HTT, rfl⟩ := hcut
  clear q2 g2 q3 g3 q4 g4
  go_upto_if 94 with fail
  go_cut [21] from 95 to 99 (fun _ wx => Hid (Below w5.heap.size w5 wx))
  case first =>
    cases t
    · go_wp2_with fail
      go_meet
      case rel => exact Below.refl _ _
    · have CL := leafs_any vb vd _ _ w5 HKB5.out HKD5.out (by have := strike_len (l := writeL l p c) (p := q); omega)
      obtain ⟨x2, x3, x4⟩ := HTT.out rfl
      rw [decide_eq_true (either_ws H0.out (HT2.out x2) (HT3.out x3) (HT4.out x4))] at CL
      clear x2 x3 x4
      go_wp2_with fail
      refine CL.mono ?_
      rintro e w6 ⟨rfl, hb6⟩
      have HB6 : Hid (Below w5.heap.size w5 w6) := hb6
      clear hb6 CL
      go_wp2_with fail
      go_meet
      case rel => exact HB6
  case rest =>
  have HBC : Hid (Below w.heap.size w wc) := bel HB5.out hcut.out
  have HKAC : Hid (BookAt wc va (writeL l p c)) := HKA5.out.below hcut.out
  clear hcut HKB5 HKD5 HKA5 HT2 HT3 HT4 HTT
  have C6 := write_any va _ q o wc HKAC.out HS.out.1 HS.out.2.2.2.2
  have q6 : ∀ W, (binOp .eql 24 (errV (writeE (writeL l p c) q o)) .nilIface).run Try.prog W = .ok (.bool ((writeE (writeL l p c) q o) == 0)) W := fun W => err_nil _ W
  have g6 : ∀ (x : Nat) (W : World), (eqGuard .eql 24 (.tmp x) (.const .nilIface) (errV (writeE (writeL l p c) q o)) .nilIface).run Try.prog W = .ok () W := fun x W => err_guard _ x W
  have HT6 : Hid (((writeE (writeL l p c) q o) == 0) = true → writeE (writeL l p c) q o = 0) := fun h => by simpa using h
  generalize errV (writeE (writeL l p c) q o) = e6 at C6 q6 g6
  generalize ((writeE (writeL l p c) q o) == 0) = t6 at q6 HT6
  go_wp2_with fail
  refine C6.mono ?_
  rintro e w6 ⟨vf, rfl, hk6, hb6⟩
  have HB6 : Hid (Below w.heap.size w w6) := bel HBC.out hb6
  have HKA6 : Hid (BookAt w6 va (writeL l p c)) := HKAC.out.below hb6
  have HKF6 : Hid (BookAt w6 vf (writeL (writeL l p c) q o)) := hk6
  have C7 := HCE.out w6 HB6.out
  have q7 : ∀ W, (binOp .eql 24 (errV (writeE l q o)) .nilIface).run Try.prog W = .ok (.bool ((writeE l q o) == 0)) W := fun W => err_nil _ W
  have g7 : ∀ (x : Nat) (W : World), (eqGuard .eql 24 (.tmp x) (.const .nilIface) (errV (writeE l q o)) .nilIface).run Try.prog W = .ok () W := fun x W => err_guard _ x W
  have HT7 : Hid (((writeE l q o) == 0) = true → writeE l q o = 0) := fun h => by simpa using h
  generalize errV (writeE l q o) = e7 at C7 q7 g7
  generalize ((writeE l q o) == 0) = t7 at q7 HT7
  clear C6 hb6 hk6 HKAC
  go_wp2_with fail
  refine C7.mono ?_
  rintro e w7 ⟨vg, rfl, hk7, hb7⟩
  have HB7 : Hid (Below w.heap.size w w7) := bel HB6.out hb7
  have HKA7 : Hid (BookAt w7 va (writeL l p c)) := HKA6.out.below hb7
  have HKF7 : Hid (BookAt w7 vf (writeL (writeL l p c) q o)) := HKF6.out.below hb7
  have C8 := write_any vg _ p c w7 hk7 HS.out.2.2.1 HS.out.2.2.2.1
  have q8 : ∀ W, (binOp .eql 24 (errV (writeE (writeL l q o) p c)) .nilIface).run Try.prog W = .ok (.bool ((writeE (writeL l q o) p c) == 0)) W := fun W => err_nil _ W
  have g8 : ∀ (x : Nat) (W : World), (eqGuard .eql 24 (.tmp x) (.const .nilIface) (errV (writeE (writeL l q o) p c)) .nilIface).run Try.prog W = .ok () W := fun x W => err_guard _ x W
  have HT8 : Hid (((writeE (writeL l q o) p c) == 0) = true → writeE (writeL l q o) p c = 0) := fun h => by simpa using h
  generalize errV (writeE (writeL l q o) p c) = e8 at C8 q8 g8
  generalize ((writeE (writeL l q o) p c) == 0) = t8 at q8 HT8
  clear C7 hb7 hk7 HKA6 HKF6
  go_wp2_with fail
  refine C8.mono ?_
  rintro e w8 ⟨vh, rfl, hk8, hb8⟩
  have HB8 : Hid (Below w.heap.size w w8) := bel HB7.out hb8
  have HKA8 : Hid (BookAt w8 va (writeL l p c)) := HKA7.out.below hb8
  have HKF8 : Hid (BookAt w8 vf (writeL (writeL l p c) q o)) := HKF7.out.below hb8
  have HKH8 : Hid (BookAt w8 vh (writeL (writeL l q o) p c)) := hk8
  clear C8 hb8 hk8 HKA7 HKF7
  go_upto_region 15 with fail
  go_cut [134] from 121 to 134 (fun s134 wx => ∃ t : Bool, s134 = .bool t ∧ Hid (t = true → t6 = true ∧ t7 = true ∧ t8 = true) ∧ w8 = wx)
  case first =>
    cases t6
    · go_wp2_with fail
      go_meet
      case rel => exact ⟨false, rfl, (fun h => by cases h), rfl⟩
    · cases t7
      · go_wp2_with fail
        go_meet
        case rel => exact ⟨false, rfl, (fun h => by cases h), rfl⟩
      · cases t8
        · go_wp2_with fail
          go_meet
          case rel => exact ⟨false, rfl, (fun h => by cases h), rfl⟩
        · go_wp2_with fail
          go_meet
          case rel => exact ⟨true, rfl, (fun _ => by simp), rfl⟩
  case rest =>
  obtain ⟨t', rfl, HTT, rfl⟩ := hcut
  clear q6 g6 q7 g7 q8 g8
  go_upto_if 134 with fail
  go_cut [22] from 135 to 139 (fun _ wx => Hid (Below w8.heap.size w8 wx))
  case first =>
    cases t'
    · go_wp2_with fail
      go_meet
      case rel => exact Below.refl _ _
    · have CL := leafs_any vf vh _ _ w8 HKF8.out HKH8.out (by have := write_len (l := writeL l p c) (p := q) o; omega)
      obtain ⟨x2, x3, x4⟩ := HTT.out rfl
      rw [decide_eq_true (either_ww H0.out (HT6.out x2) (HT7.out x3) (HT8.out x4))] at CL
      clear x2 x3 x4
      go_wp2_with fail
      refine CL.mono ?_
      rintro e w9 ⟨rfl, hb9⟩
      have HB9 : Hid (Below w8.heap.size w8 w9) := hb9
      clear hb9 CL
      go_wp2_with fail
      go_meet
      case rel => exact HB9
  case rest =>
  rename_i wd
  have HBC : Hid (Below w.heap.size w wc) := bel HB8.out hcut.out
  have HKAC : Hid (BookAt wc va (writeL l p c)) := HKA8.out.below hcut.out
  clear hcut HKF8 HKH8 HKA8 HT6 HT7 HT8 HTT
  obtain ⟨⟨f1, f2⟩, flt, fleaf, fbook, ftext, ⟨fo1, fo2⟩, fat, fbig, fletr⟩ := HTAIL.out
  obtain ⟨A, hA⟩ : ∃ A, A = writeL l p c := ⟨_, rfl⟩
  rw [← hA] at f1 f2 flt fleaf fbook ftext fo1 fo2 fat HKAC HS
  have hok := book_ok fbook
  obtain ⟨pa, ca, hva, hlf, hca, hcm, _⟩ := HKAC.out
  obtain ⟨n, hn⟩ : ∃ n, A.length = n := ⟨_, rfl⟩
  rw [hn] at hva hca flt
  obtain ⟨b, ob, rfl, hcc⟩ := hlf.some (by rintro rfl; simp at hn; omega)
  have hci := hcc i (by omega)
  rw [fleaf] at hci
  have HCI : Hid (At wc b ob i (p, c, s0)) := hci
  have HLF : Hid (LeafsIn wc (some ⟨b, ob, none⟩) A) := hlf
  have hn300 : n ≤ 300 := by rw [← hn]; exact hok.1
  have C9 := find_any (some ⟨b, ob, none⟩) n ca A p wc hn hlf hok.2.1 (by omega)
  rw [f1, f2] at C9
  have HC10 : Hid (∀ W, Below wc.heap.size wc W → Calls Try.prog 9 #[.slice (some ⟨b, ob, none⟩) n ca] W fun e w' => e = .returned (.tuple #[.string T, .nilIface]) ∧ Below W.heap.size W w') := by
    intro W hb
    have := text_any (some ⟨b, ob, none⟩) n ca A W hn (HLF.out.below hb) HS.out.1 (by unfold maxLen; omega)
    rw [ftext, fbook, errV_zero] at this
    exact this
  have HC11 : Hid (∀ W, Below wc.heap.size wc W → Calls Try.prog 10 #[.slice (some ⟨b, ob, none⟩) n ca, .string p] W fun e w' => e = .returned (.tuple #[.int .i64 kk, .nilIface]) ∧ Below W.heap.size W w') := by
    intro W hb
    have := offset_any (some ⟨b, ob, none⟩) n ca A p W hn (HLF.out.below hb) HS.out.1 hca hcm HS.out.2.2.2.1
    rw [fo2, fo1, errV_zero] at this
    exact this
  have HC12 : Hid (s0 = false → ∀ W, Below wc.heap.size wc W → Calls Try.prog 11 #[.slice (some ⟨b, ob, none⟩) n ca, .int .i64 kk] W fun e w' => e = .returned (.tuple #[.int .i64 i, .nilIface]) ∧ Below W.heap.size W w') := by
    intro h0 W hb
    have := at_any (some ⟨b, ob, none⟩) n ca A kk W hn (HLF.out.below hb) HS.out.1 (by unfold maxLen; omega)
    rw [(fat h0).1, (fat h0).2, errV_zero] at this
    exact this
  have HLE : Hid (s0 = false → ∃ h : kk < T.size, ((T[kk].toNat : Int) = c)) := fletr
  have hiz : (i : Int) < n := by omega
  subst hva
  clear f1 f2 flt fleaf fbook ftext fo1 fo2 fat fletr hok hlf hca hcm hn hcc hci hA HTAIL HLF HKAC HS
  go_wp2_with fail
  refine C9.mono ?_
  rintro e w9 ⟨rfl, hb9⟩
  have HB9 : Hid (Below wc.heap.size wc w9) := hb9
  have C10 := HC10.out w9 hb9
  clear C9 hb9
  go_wp2_with fail
  refine C10.mono ?_
  rintro e w10 ⟨rfl, hb10⟩
  have HB10 : Hid (Below wc.heap.size wc w10) := bel HB9.out hb10
  obtain ⟨x1, x2, x3⟩ := HCI.out.below HB10.out HCI.out.lt
  simp only at x1 x2 x3
  have C11 := HC11.out w10 HB10.out
  clear C10 hb10
  go_wp2_with fail
  refine C11.mono ?_
  rintro e w11 ⟨rfl, hb11⟩
  have HB11 : Hid (Below wc.heap.size wc w11) := bel HB10.out hb11
  clear x1 x2 x3
  obtain ⟨x1, x2, x3⟩ := HCI.out.below HB11.out HCI.out.lt
  simp only at x1 x2 x3
  clear C11 hb11
  cases s0
  · have C12 := HC12.out rfl w11 HB11.out
    obtain ⟨hkT, hkc⟩ := HLE.out rfl
    have hb256 : T[kk].toNat < 256 := UInt8.toNat_lt _
    have hkz : (kk : Int) < T.size := by omega
    have hkb : ((T[kk].toNat : Int) == c) = true := by rw [hkc]; simp
    have HKC : Hid ((T[kk].toNat : Int) = c) := hkc
    clear hkc
    go_wp2_with fail
    refine C12.mono ?_
    rintro e w12 ⟨rfl, hb12⟩
    have HB12 : Hid (Below w.heap.size w w12) := bel HBC.out (bel HB11.out hb12)
    clear C12 hb12
    go_wp2_with fail
    go_ret
    exact ⟨by first | rfl | (refine ret_bool ?_; simp [HKC.out]), HB12.out⟩
  · go_wp2_with fail
    go_ret
    exact ⟨rfl, bel HBC.out HB11.out⟩

end Eb
end Go.Proofs.Ytaefoieoachdfaa
