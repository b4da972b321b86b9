/- DiffTells: the walk. -/
import Derived.Test.YtmenknbgmgnfhaaDoorZp
import Derived.Test.YtmenknbgmgnfhaaDoorZq
import Derived.Test.YtmenknbgmgnfhaaDoorZr
import Derived.Test.YtmenknbgmgnfhaaDoorKl
namespace Go.Proofs.YtmenknbgmgnfhaaDoor
namespace Zs
set_option linter.unusedVariables false
set_option linter.unusedSimpArgs false
open Go.ChangeShapes Go.WideShapes Go.ChangeAt Go.RowKit Ka Kb Kt Kl Zb Zc Zd Ze Zf Zg Zh Zi Zj Zm Zn Zp Zq Zr

theorem err_same (k : Int) (w : World) (hg : ET w) : Calls Tryd.prog 5 #[errV k, .int .i64 k] w fun e w' => e = .returned (.bool true) ∧ Hid (Below w.heap.size w w') := by
  have := same_any k k w hg
  rw [beq_self_eq_true] at this
  exact this
/- what Apply answers where it answers -/
theorem app_ok {A : List UInt8} {l : List Ed} (h : appE A l = 0) : A.length ≤ 200 ∧ l.length ≤ 200 ∧ ∃ t, run A l = some t ∧ t.length ≤ 200 ∧ appR A l = t := by
  unfold appE at h
  by_cases h1 : 200 < A.length ∨ 200 < l.length
  · rw [if_pos h1] at h; cases h
  · rw [if_neg h1] at h
    refine ⟨by omega, by omega, ?_⟩
    cases hr : run A l with
    | none => rw [hr] at h; cases h
    | some t =>
      rw [hr] at h
      dsimp only at h
      by_cases h2 : 200 < t.length
      · rw [if_pos h2] at h; cases h
      · refine ⟨t, rfl, by omega, ?_⟩
        have h3 : appE A l = 0 := by unfold appE; rw [if_neg h1, hr]; dsimp only; rw [if_neg h2]
        rw [appR, if_pos h3, hr]; rfl
theorem cost_sum : ∀ {l : List Fr}, (∀ x ∈ l, x.2.2.size ≤ 200) → costN l ≤ l.length * 400
  | [], _ => by simp [costN]
  | x :: l, h => by
    have := cost_sum (l := l) fun y hy => h y (List.mem_cons_of_mem _ hy)
    have h2 := h x (List.mem_cons_self ..)
    have h3 : cs x ≤ 400 := by unfold cs; split <;> omega
    have e : costN (x :: l) = cs x + costN l := by simp [costN]
    rw [e, List.length_cons, Nat.add_mul]; omega
theorem writes_of {l : List Fr} {A B : List UInt8} (hr : run A (eds l) = some B) (hB : B.length ≤ 200) : ∀ x ∈ l, x.2.2.size ≤ 200 := by
  intro x hx
  have h := run_strike hr (ed x) (List.mem_map.2 ⟨x, hx, rfl⟩)
  have h2 := h.2.2
  unfold ed at h2
  dsimp only at h2
  rw [Kb.len_eq] at h2; omega
theorem cost_of {l : List Fr} {A B : List UInt8} (hr : run A (eds l) = some B) (hA : A.length ≤ 200) (hB : B.length ≤ 200) (hl : l.length ≤ 200) : costW l = ((cost (eds l) : Nat) : Int) := by
  have h := cost_sum (writes_of hr hB)
  rw [costW_small (by omega), cost_eq (strikes_of hr hA)]

set_option maxRecDepth 100000 in
set_option maxHeartbeats 4000000 in
theorem walk (a b : ByteArray) (v : Value) (l : List Fr) (R : Nat → Prop) (w : World) (ha : a.size ≤ 140737488355328) (hb : b.size ≤ 140737488355328) (hf : FrsJ R w v l) (hlb : l.length ≤ 140737488355328) (hz : ∀ x ∈ l, x.2.2.size ≤ 140737488355328) (hg : ET w) :
    Calls Tryd.prog 3 #[.string a, .string b, v] w fun e w' => e = .returned (.bool true) ∧ Below w.heap.size w w' := by
  have HV : Hid (∀ W, Below w.heap.size w W → FrsJ R W v l) := fun W hb => hf.below hb
  have HG : Hid (∀ W, Below w.heap.size w W → ET W) := fun W hb => Kl.ET.below hg hb
  have HLB : Hid (l.length ≤ 140737488355328) := hlb
  have HZ : Hid (∀ x ∈ l, x.2.2.size ≤ 140737488355328) := hz
  obtain ⟨p, c, rfl, _⟩ := hf
  obtain ⟨n, hn⟩ : ∃ n, n = l.length := ⟨_, rfl⟩
  rw [← hn] at HV ⊢
  obtain ⟨EE, hEE⟩ : ∃ x, x = appE a.toList (eds l) := ⟨_, rfl⟩
  obtain ⟨RR, hRR⟩ : ∃ x, x = bs (appR a.toList (eds l)) := ⟨_, rfl⟩
  have HEE : Hid (EE = appE a.toList (eds l)) := hEE
  have CE : Hid (∀ W, Below w.heap.size w W → Calls Tryd.prog 6 #[.string a, .slice p n c] W fun e w' => e = .returned (.tuple #[.string RR, .int .i64 EE]) ∧ Hid (Below W.heap.size W w')) := fun W hb => by
    rw [hEE, hRR]; exact edited_any a R _ l W (HV.out W hb) (by unfold maxLen; omega) HZ.out
  have CA : Hid (∀ W, Below w.heap.size w W → Calls Tryd.prog 9 #[.string a, .slice p n c] W fun e w' => e = .returned (.tuple #[.string RR, errV EE]) ∧ Hid (Below W.heap.size W w')) := fun W hb => by
    rw [hEE, hRR]; exact apply_any a R _ l W (HV.out W hb) (by unfold maxLen; omega) HZ.out
  have CC : Hid (∀ W, Below w.heap.size w W → Calls Tryd.prog 11 #[.slice p n c] W fun e w' => e = .returned (.int .i64 (costW l)) ∧ Below W.heap.size W w') := fun W hb => wcost_any R _ l W (HV.out W hb) HLB.out HZ.out
  have CR : Hid (∀ W, Below w.heap.size w W → Calls Tryd.prog 7 #[.slice p n c] W fun e w' => e = .returned (.int .i64 (costW l)) ∧ Below W.heap.size W w') := fun W hb => rcost_any R _ l W (HV.out W hb) HLB.out HZ.out
  have CS : Hid (∀ k W, Below w.heap.size w W → Calls Tryd.prog 5 #[errV k, .int .i64 k] W fun e w' => e = .returned (.bool true) ∧ Hid (Below W.heap.size W w')) := fun k W hb => err_same k W (HG.out W hb)
  have CTN : Hid (EE ≠ 0 → ∀ W, Below w.heap.size w W → Calls Tryd.prog 10 #[.string a, .slice p n c] W fun e w' => e = .returned (.tuple #[.slice none 0 0, errV EE]) ∧ Hid (Below W.heap.size W w')) := fun h W hb => by
    rw [hEE] at h ⊢; exact turn_no a R _ l W (HV.out W hb) (by unfold maxLen; omega) HZ.out h
  have CTY : Hid (EE = 0 → ∀ W, Below w.heap.size w W → Calls Tryd.prog 10 #[.string a, .slice p n c] W fun e w' => ∃ p' n' c' T, e = .returned (.tuple #[.slice p' n' c', .nilIface]) ∧ Hid (FrsJ (fun g => w.heap.size ≤ g) w' (.slice p' n' c') T) ∧ Hid (T.length ≤ 200 ∧ (∀ x ∈ T, x.2.2.size ≤ 140737488355328) ∧ costW T = costW l ∧ appE RR.toList (eds T) = 0 ∧ bs (appR RR.toList (eds T)) = a) ∧ Hid (Below W.heap.size W w')) := fun h W hb => by
    rw [hEE] at h
    obtain ⟨h1, h2, t, h3, h4, h5⟩ := app_ok h
    rw [Kb.len_eq] at h1
    have h2' : l.length ≤ 200 := by rw [eds, List.length_map] at h2; exact h2
    refine (turn_yes a R _ l W (HV.out W hb) h1 h2' HZ.out h (by rw [h3]; rfl)).mono ?_
    rintro e w' ⟨v', T, rfl, HR, HE, HS, HB⟩
    obtain ⟨p', n', c', rfl, _⟩ := own_shape HR.out
    have hRl : RR.toList = t := by rw [hRR, h5, bs_list]
    have hbk : run RR.toList (eds T) = some a.toList := by rw [hRl, HE.out]; exact turn_run h3
    have hTl : T.length = l.length := by
      have := congrArg List.length HE.out
      rw [eds, List.length_map, turn_len, eds, List.length_map] at this
      exact this
    have eE : appE RR.toList (eds T) = 0 := by
      rw [appE, if_neg (by rw [hRl, eds, List.length_map]; omega), hbk]
      show (if 200 < a.toList.length then (4 : Int) else 0) = 0
      rw [if_neg (by rw [Kb.len_eq]; omega)]
    refine ⟨p', n', c', T, rfl, (FrsJ.own HR.out).mono fun g hg => Nat.le_trans hb.size (own_ge HR.out g hg), ⟨by omega, fun x hx => by have := HS.out x hx; omega, ?_, eE, ?_⟩, HB⟩
    · rw [cost_of hbk (by rw [hRl]; exact h4) (by rw [Kb.len_eq]; exact h1) (by omega), cost_of h3 (by rw [Kb.len_eq]; exact h1) h4 h2', HE.out, turn_cost h3]
    · rw [appR, if_pos eE, hbk]; exact bs_back a
  have HRR : Hid (RR.size ≤ maxLen) := by
    rw [hRR]
    by_cases h : appE a.toList (eds l) = 0
    · obtain ⟨_, _, t, _, h4, h5⟩ := app_ok h
      rw [Hid, h5, ← Kb.len_eq, bs_list]; unfold maxLen; omega
    · rw [Hid, appR, if_neg h]; exact Nat.zero_le _
  generalize costW l = KK at CC CR CTY
  clear hlb hz hg hn hEE hRR HV HZ HLB HG
  have HRS : Hid (RR.size ≤ maxLen) := HRR.out
  by_cases hbig : 200 < a.size ∨ 200 < b.size
  · have D1 := diff_no a b w (by unfold maxLen; omega) (by unfold maxLen; omega) hbig
    have C4 := CS.out 4 w (Below.refl _ _)
    rw [errV_ne (by decide)] at C4
    have tst : ((200 : Int) < (a.size : Int)) ∨ (¬ (200 : Int) < (a.size : Int) ∧ (200 : Int) < (b.size : Int)) := by omega
    clear hbig
    rcases tst with q1 | ⟨q1, q2⟩
    all_goals
      go_enter Tryd.func3, Tryd.ntmps3
      go_wp2_with fail
      refine D1.mono ?_
      rintro e w1 ⟨rfl, hw1⟩
      have hw2 := hw1.symm; subst hw2; clear hw1
      go_wp2_with fail
      refine C4.mono ?_
      rintro e w2 ⟨rfl, HBP⟩
      clear D1 C4
      go_wp2_with fail
      refine (CE.out _ HBP.out).mono ?_
      rintro e w11 ⟨rfl, HB11'⟩
      have HB11 : Hid (Below w.heap.size w w11) := bel HBP.out HB11'.out
      clear HB11'
      go_wp2_with fail
      refine (CA.out _ HB11.out).mono ?_
      rintro e w12 ⟨rfl, HB12'⟩
      have HB12 : Hid (Below w.heap.size w w12) := bel HB11.out HB12'.out
      clear HB12'
      go_wp2_with fail
      refine (CS.out EE _ HB12.out).mono ?_
      rintro e w13 ⟨rfl, HB13'⟩
      have HB13 : Hid (Below w.heap.size w w13) := bel HB12.out HB13'.out
      clear HB13'
      by_cases hE0 : EE = 0
      · have CT0 := CTY.out hE0
        subst hE0
        clear CTN CTY
        go_wp2_with fail
        refine (CT0 _ HB13.out).mono ?_
        rintro e w14 ⟨p14, n14, c14, T, rfl, HF14, HT, HB14'⟩
        have HB14 : Hid (Below w.heap.size w w14) := bel HB13.out HB14'.out
        have HFW : Hid (∀ W, Below w14.heap.size w14 W → FrsJ (fun g => w.heap.size ≤ g) W (.slice p14 n14 c14) T) := fun W hb => HF14.out.below hb
        clear HB14' HF14
        go_wp2_with fail
        rw [← errV_zero]
        refine (CS.out 0 _ HB14.out).mono ?_
        rintro e w15 ⟨rfl, HB15'⟩
        have HB15 : Hid (Below w.heap.size w w15) := bel HB14.out HB15'.out
        have HX15 : Hid (Below w14.heap.size w14 w15) := HB15'.out
        clear HB15'
        rw [errV_zero]
        have C15 := edited_any RR _ (.slice p14 n14 c14) T w15 (HFW.out w15 HX15.out) HRS.out HT.out.2.1
        rw [HT.out.2.2.2.1, HT.out.2.2.2.2] at C15
        go_wp2_with fail
        refine C15.mono ?_
        rintro e w16 ⟨rfl, HB16'⟩
        have HB16 : Hid (Below w.heap.size w w16) := bel HB15.out HB16'.out
        have HX16 : Hid (Below w14.heap.size w14 w16) := bel HX15.out HB16'.out
        clear HB16' C15
        have C16 := rcost_any _ (.slice p14 n14 c14) T w16 (HFW.out w16 HX16.out) (by have := HT.out.1; omega) HT.out.2.1
        rw [HT.out.2.2.1] at C16
        go_wp2_with fail
        refine C16.mono ?_
        rintro e w17 ⟨rfl, hb17⟩
        have HB17 : Hid (Below w.heap.size w w17) := bel HB16.out hb17
        clear hb17 C16
        go_wp2_with fail
        refine (CR.out _ HB17.out).mono ?_
        rintro e w18 ⟨rfl, hb18⟩
        have HB18 : Hid (Below w.heap.size w w18) := bel HB17.out hb18
        clear hb18
        go_wp2_with fail
        refine (CC.out _ HB18.out).mono ?_
        rintro e w19 ⟨rfl, hb19⟩
        have HB19 : Hid (Below w.heap.size w w19) := bel HB18.out hb19
        clear hb19
        go_wp2_with fail
        refine (CR.out _ HB19.out).mono ?_
        rintro e w20 ⟨rfl, hb20⟩
        have HB20 : Hid (Below w.heap.size w w20) := bel HB19.out hb20
        clear hb20
        go_wp2_with fail
        go_ret
        exact ⟨rfl, HB20.out⟩
      · have hEb : (EE == 0) = false := by simpa using hE0
        go_wp2_with fail
        refine (CTN.out hE0 _ HB13.out).mono ?_
        rintro e w14 ⟨rfl, HB14'⟩
        have HB14 : Hid (Below w.heap.size w w14) := bel HB13.out HB14'.out
        clear HB14'
        go_wp2_with fail
        refine (CS.out EE _ HB14.out).mono ?_
        rintro e w15 ⟨rfl, HB15'⟩
        have HB15 : Hid (Below w.heap.size w w15) := bel HB14.out HB15'.out
        clear HB15' hE0
        go_wp2_with fail
        refine (CC.out _ HB15.out).mono ?_
        rintro e w19 ⟨rfl, hb19⟩
        have HB19 : Hid (Below w.heap.size w w19) := bel HB15.out hb19
        clear hb19
        go_wp2_with fail
        refine (CR.out _ HB19.out).mono ?_
        rintro e w20 ⟨rfl, hb20⟩
        have HB20 : Hid (Below w.heap.size w w20) := bel HB19.out hb20
        clear hb20
        go_wp2_with fail
        go_ret
        exact ⟨rfl, HB20.out⟩
  · have ha2 : a.size ≤ 200 := by omega
    have hb2 : b.size ≤ 200 := by omega
    have HA : Hid (a.size ≤ 200) := ha2
    have HBS : Hid (b.size ≤ 200) := hb2
    have HLA : Hid (a.toList.length ≤ 200) := by rw [Hid, Kb.len_eq]; exact ha2
    have HLC : Hid (b.toList.length ≤ 200) := by rw [Hid, Kb.len_eq]; exact hb2
    have q1 : ¬ (200 : Int) < (a.size : Int) := by omega
    have q2 : ¬ (200 : Int) < (b.size : Int) := by omega
    clear hbig ha2 hb2
    go_enter Tryd.func3, Tryd.ntmps3
    go_wp2_with fail
    refine (diff_at a b w HA.out HBS.out).mono ?_
    rintro e w1 ⟨p1, n1, c1, l1, rfl, HN1, HF1, HD1, HB1⟩
    have HDW : Hid (l1.length ≤ 140737488355328 ∧ (∀ x ∈ l1, x.2.2.size ≤ 140737488355328) ∧ costW l1 = ((least a.toList b.toList : Nat) : Int) ∧ appE a.toList (eds l1) = 0 ∧ bs (appR a.toList (eds l1)) = b) := by
      have h1 := HD1.out.len HLA.out HLC.out
      have h2 := HD1.out.sz
      have h3 := HD1.out.run
      have eE : appE a.toList (eds l1) = 0 := by
        rw [appE, if_neg (by rw [eds, List.length_map]; have := HLA.out; omega), h3]
        show (if 200 < b.toList.length then (4 : Int) else 0) = 0
        rw [if_neg (by have := HLC.out; omega)]
      refine ⟨by omega, fun x hx => by have := h2 x hx; omega, ?_, eE, ?_⟩
      · rw [costW_small (by rw [HD1.out.cost HLA.out]; have := least_add a.toList b.toList; have := HLA.out; have := HLC.out; omega), HD1.out.cost HLA.out]
      · rw [appR, if_pos eE, h3]; exact bs_back b
    have C2 := CS.out 0 w1 HB1.out
    rw [errV_zero] at C2
    go_wp2_with fail
    refine C2.mono ?_
    rintro e w2 ⟨rfl, HB2'⟩
    have HB2 : Hid (Below w.heap.size w w2) := bel HB1.out HB2'.out
    have HX2 : Hid (Below w1.heap.size w1 w2) := HB2'.out
    have C3 := edited_any a _ (.slice p1 n1 c1) l1 w2 (HF1.out.below HX2.out) (by have := HA.out; unfold maxLen; omega) HDW.out.2.1
    rw [HDW.out.2.2.2.1, HDW.out.2.2.2.2] at C3
    clear HB2' C2
    go_wp2_with fail
    refine C3.mono ?_
    rintro e w3 ⟨rfl, HB3'⟩
    have HB3 : Hid (Below w.heap.size w w3) := bel HB2.out HB3'.out
    have HX3 : Hid (Below w1.heap.size w1 w3) := bel HX2.out HB3'.out
    have C4 := rcost_any _ (.slice p1 n1 c1) l1 w3 (HF1.out.below HX3.out) HDW.out.1 HDW.out.2.1
    rw [HDW.out.2.2.1] at C4
    clear HB3' C3
    go_wp2_with fail
    refine C4.mono ?_
    rintro e w4 ⟨rfl, hb4⟩
    have HB4 : Hid (Below w.heap.size w w4) := bel HB3.out hb4
    clear hb4 C4
    go_wp2_with fail
    refine (least_any a b w4 HA.out HBS.out).mono ?_
    rintro e w5 ⟨rfl, HB5'⟩
    have HBP : Hid (Below w.heap.size w w5) := bel HB4.out HB5'.out
    clear HB5'
    go_wp2_with fail
    refine (CE.out _ HBP.out).mono ?_
    rintro e w11 ⟨rfl, HB11'⟩
    have HB11 : Hid (Below w.heap.size w w11) := bel HBP.out HB11'.out
    clear HB11'
    go_wp2_with fail
    refine (CA.out _ HB11.out).mono ?_
    rintro e w12 ⟨rfl, HB12'⟩
    have HB12 : Hid (Below w.heap.size w w12) := bel HB11.out HB12'.out
    clear HB12'
    go_wp2_with fail
    refine (CS.out EE _ HB12.out).mono ?_
    rintro e w13 ⟨rfl, HB13'⟩
    have HB13 : Hid (Below w.heap.size w w13) := bel HB12.out HB13'.out
    clear HB13'
    by_cases hE0 : EE = 0
    · have CT0 := CTY.out hE0
      subst hE0
      clear CTN CTY
      go_wp2_with fail
      refine (CT0 _ HB13.out).mono ?_
      rintro e w14 ⟨p14, n14, c14, T, rfl, HF14, HT, HB14'⟩
      have HB14 : Hid (Below w.heap.size w w14) := bel HB13.out HB14'.out
      have HFW : Hid (∀ W, Below w14.heap.size w14 W → FrsJ (fun g => w.heap.size ≤ g) W (.slice p14 n14 c14) T) := fun W hb => HF14.out.below hb
      clear HB14' HF14
      go_wp2_with fail
      rw [← errV_zero]
      refine (CS.out 0 _ HB14.out).mono ?_
      rintro e w15 ⟨rfl, HB15'⟩
      have HB15 : Hid (Below w.heap.size w w15) := bel HB14.out HB15'.out
      have HX15 : Hid (Below w14.heap.size w14 w15) := HB15'.out
      clear HB15'
      rw [errV_zero]
      have C15 := edited_any RR _ (.slice p14 n14 c14) T w15 (HFW.out w15 HX15.out) HRS.out HT.out.2.1
      rw [HT.out.2.2.2.1, HT.out.2.2.2.2] at C15
      go_wp2_with fail
      refine C15.mono ?_
      rintro e w16 ⟨rfl, HB16'⟩
      have HB16 : Hid (Below w.heap.size w w16) := bel HB15.out HB16'.out
      have HX16 : Hid (Below w14.heap.size w14 w16) := bel HX15.out HB16'.out
      clear HB16' C15
      have C16 := rcost_any _ (.slice p14 n14 c14) T w16 (HFW.out w16 HX16.out) (by have := HT.out.1; omega) HT.out.2.1
      rw [HT.out.2.2.1] at C16
      go_wp2_with fail
      refine C16.mono ?_
      rintro e w17 ⟨rfl, hb17⟩
      have HB17 : Hid (Below w.heap.size w w17) := bel HB16.out hb17
      clear hb17 C16
      go_wp2_with fail
      refine (CR.out _ HB17.out).mono ?_
      rintro e w18 ⟨rfl, hb18⟩
      have HB18 : Hid (Below w.heap.size w w18) := bel HB17.out hb18
      clear hb18
      go_wp2_with fail
      refine (CC.out _ HB18.out).mono ?_
      rintro e w19 ⟨rfl, hb19⟩
      have HB19 : Hid (Below w.heap.size w w19) := bel HB18.out hb19
      clear hb19
      go_wp2_with fail
      refine (CR.out _ HB19.out).mono ?_
      rintro e w20 ⟨rfl, hb20⟩
      have HB20 : Hid (Below w.heap.size w w20) := bel HB19.out hb20
      clear hb20
      go_wp2_with fail
      go_ret
      exact ⟨rfl, HB20.out⟩
    · have hEb : (EE == 0) = false := by simpa using hE0
      go_wp2_with fail
      refine (CTN.out hE0 _ HB13.out).mono ?_
      rintro e w14 ⟨rfl, HB14'⟩
      have HB14 : Hid (Below w.heap.size w w14) := bel HB13.out HB14'.out
      clear HB14'
      go_wp2_with fail
      refine (CS.out EE _ HB14.out).mono ?_
      rintro e w15 ⟨rfl, HB15'⟩
      have HB15 : Hid (Below w.heap.size w w15) := bel HB14.out HB15'.out
      clear HB15' hE0
      go_wp2_with fail
      refine (CC.out _ HB15.out).mono ?_
      rintro e w19 ⟨rfl, hb19⟩
      have HB19 : Hid (Below w.heap.size w w19) := bel HB15.out hb19
      clear hb19
      go_wp2_with fail
      refine (CR.out _ HB19.out).mono ?_
      rintro e w20 ⟨rfl, hb20⟩
      have HB20 : Hid (Below w.heap.size w w20) := bel HB19.out hb20
      clear hb20
      go_wp2_with fail
      go_ret
      exact ⟨rfl, HB20.out⟩

end Zs
end Go.Proofs.YtmenknbgmgnfhaaDoor
