/- LogStops' walk: what is asked of package log is a premise here. -/
import Derived.Test.YtgefpcchcegcpaaGreatDoorTh
import Derived.Test.YtgefpcchcegcpaaGreatDoorJ14
import Derived.Test.YtgefpcchcegcpaaGreatDoorIl
import Derived.Deep.DeepCutAuto
namespace Go.Proofs.YtgefpcchcegcpaaGreatDoor
namespace Ti
set_option linter.unusedVariables false
set_option linter.unusedSimpArgs false
open Go.ChangeShapes Go.WideShapes Go.ChangeAt Go.RowKit Cm Ka Kb Na Om Oa Oz Oc Og Oi Hm Ia Ic Idc Ie If Ig Ih Ii Ij Ik Il Tg Th Kt Kl
open La (bel bel_drew errV_zero errV_ne own_ge own_grow own_below Lies)

theorem Hid.mk' {p : Prop} (h : p) : Hid p := h
theorem dts_nil (w : World) : DtsAt w (.slice none 0 0) [] := ⟨none, 0, rfl, Or.inl rfl, Nat.le_refl _, by unfold maxLen; omega, fun _ => rfl⟩
theorem ok_text {d : ByteArray} : (d.toList == d.toList) = true := by simp
/- Put of an op that saw nothing -/
theorem put_bare (L : LogSays) (w0 : World) (X : Nat) (s : Lg) (F : Nat → Prop) (a b t : Int) (p : ByteArray) (c : Int) (w : World) (h : Lc L w0 w X s F) (hf : Fit s) (hp : p.size ≤ maxLen) (en : Bool) (ee : Int) (hen : putN s ((a, b), t, p, c, []) = en) (hee : putE s ((a, b), t, p, c, []) = ee) :
    Calls Tryz.prog 8 #[ptr X, .agg #[.int .i64 a, .int .i64 b, .int .i64 t, .string p, .int .i64 c, .slice none 0 0]] w fun e w' => e = .returned (.tuple #[.bool en, errV ee]) ∧ ∃ r F', r ≤ 100000 ∧ 2 ≤ r ∧ Lc L w0 w' X (putS s ((a, b), t, p, c, []) r) F' ∧ Chg F w w' ∧ ∀ g, F' g → F g ∨ w.heap.size ≤ g := by
  refine (L.put X s F a b t p c (.slice none 0 0) [] w h.at' hf (dts_nil w) (In.nil _) hp).mono ?_
  rintro e w' ⟨rfl, r, F', h1, h2, h3, h4, h5⟩
  refine ⟨by rw [hen, hee], r, F', h2, h1, ⟨h3, fun g e => ?_, h4.below h.low h.bel h.bel.size⟩, h4, h5⟩
  rcases h5 g e with e | e
  · exact h.low g e
  · have := h.bel.size; omega

set_option maxRecDepth 100000 in
set_option maxHeartbeats 8000000 in
theorem walk (L : LogSays) (LF : LogFails L) (af ma ke : Int) (w : World) (hE : ET w) :
    Calls Tryz.prog 3 #[.int .i64 af, .int .i64 ma, .int .i64 ke] w fun e w' => e = .returned (.bool true) ∧ Below w.heap.size w w' := by
  have HE := Hid.mk' hE
  by_cases hr : af < 0 ∨ 20 < af ∨ ma < 0 ∨ 20 < ma
  · rcases (show af < 0 ∨ (¬ af < 0 ∧ 20 < af) ∨ (¬ af < 0 ∧ ¬ 20 < af ∧ ma < 0) ∨ (¬ af < 0 ∧ ¬ 20 < af ∧ ¬ ma < 0 ∧ 20 < ma) by omega) with h1 | ⟨h1, h2⟩ | ⟨h1, h2, h3⟩ | ⟨h1, h2, h3, h4⟩
    all_goals
      clear hr hE
      go_enter Tryz.func3, Tryz.ntmps3
      go_wp2_with fail
      refine (L.new w).mono ?_
      rintro e w1 ⟨X, F1, rfl, hx, hf, hb⟩
      have HC1 : Hid (Lc L w w1 X Tg.new F1) := ⟨hx, hf, hb⟩
      have C := L.sync X Tg.new F1 w1 hx ⟨Nat.zero_le _, Nat.zero_le _⟩
      rw [show syncE Tg.new = 0 from rfl, errV_zero] at C
      clear hx hf hb
      go_wp2_with fail
      refine C.mono ?_
      rintro e w2 ⟨rfl, hl⟩
      obtain ⟨F2, h2c⟩ := HC1.out.set hl
      have HC2 := Hid.mk' h2c
      clear hl h2c C
      go_wp2_with fail
      go_ret
      exact ⟨rfl, HC2.out.bel⟩
  · obtain ⟨A, rfl⟩ : ∃ A : Nat, af = A := ⟨af.toNat, by omega⟩
    obtain ⟨M, rfl⟩ : ∃ M : Nat, ma = M := ⟨ma.toNat, by omega⟩
    have hA : A ≤ 20 := by omega
    have hM : M ≤ 20 := by omega
    have h1 : ¬ (A : Int) < 0 := by omega
    have h2 : ¬ (20 : Int) < A := by omega
    have h3 : ¬ (M : Int) < 0 := by omega
    have h4 : ¬ (20 : Int) < M := by omega
    clear hr hE
    go_enter Tryz.func3, Tryz.ntmps3
    go_wp2_with fail
    refine (L.new w).mono ?_
    rintro e w1 ⟨X, F1, rfl, hx, hf, hb⟩
    have HC1 : Hid (Lc L w w1 X Tg.new F1) := ⟨hx, hf, hb⟩
    have C := LF.fail X Tg.new F1 A w1 hx (by omega)
    clear hx hf hb
    go_wp2_with fail
    refine C.mono ?_
    rintro e w2 ⟨rfl, hl⟩
    obtain ⟨F2, h2c⟩ := HC1.out.set hl
    have HC2 := Hid.mk' h2c
    have HR2 : Hid (Run A 0 (min 0 A) (failS Tg.new A)) := ⟨by rw [Nat.zero_min]; rfl, by omega, fun _ => ⟨rfl, by unfold failS; rw [if_neg (by omega)]; rfl⟩, fun e => by omega, Nat.zero_le _⟩
    clear hl h2c C HC1 h1 h2 h3 h4
    go_wp2_with fail
    go_loopw [8, 9] (fun v8 v9 wr => ∃ (i : Nat) (s : Lg) (F : Nat → Prop), i ≤ M ∧ v8 = .int .i64 i ∧ v9 = .int .i64 i ∧ Hid (Lc L w wr X s F) ∧ Hid (Run A i (min i A) s)) (fun _ v9 _ => M - (intOf v9).toNat)
    case atStart => exact ⟨0, _, F2, Nat.zero_le _, rfl, rfl, HC2, HR2⟩
    case round =>
      clear HC2 HR2
      obtain ⟨i, s, F, hi, rfl, rfl, HC, HR⟩ := hrel
      by_cases hlt : i < M
      · have hltz : (i : Int) < M := by omega
        have hi20 : i < 20 := by omega
        rcases Nat.lt_trichotomy i A with ha | ha | ha
        · as_aux_lemma =>
            have f1 : ¬ (A : Int) < i := by omega
            have f2 : (i : Int) ≤ A := by omega
            have f3 : ¬ (i : Int) = A := by omega
            have f3b : ((i : Int) == (A : Int)) = false := by simp; omega
            have f4 : (i : Int) < A := by omega
            have HBA : Hid (putN s bad = false ∧ putE s bad = 1) := by obtain ⟨n, hn⟩ : ∃ n, Run A i n s := ⟨_, HR.out⟩; exact ⟨(hn.bad 0).2.1, (hn.bad 0).2.2.1 (by omega)⟩
            have HBS : Hid (∀ r, putS s bad r = s) := fun r => (HR.out.bad r).1
            have HPE : Hid (putE s (stk i) = 0) := (HR.out.put hA hi20 (r := 0) (by omega)).2.1 (by omega)
            obtain ⟨pn, hpn⟩ : ∃ pn, putN s (stk i) = pn := ⟨_, rfl⟩
            have CB := put_bare L w X s F 0 0 0 ⟨#[]⟩ 0 wr HC.out (HR.out.fit (by omega)) (Nat.zero_le _) false 1 HBA.out.1 HBA.out.2
            have HPN := Hid.mk' hpn
            clear hpn ha
            go_wp2_with fail
            refine CB.mono ?_
            rintro e w3 ⟨rfl, r3, F3, _, _, hc3, _, _⟩
            have HC3 : Hid (Lc L w w3 X s F3) := by rw [Hid, ← HBS.out r3]; exact hc3
            have CP := put_bare L w X s F3 1 ((i : Int) + 1) 2 ⟨#[110, 98]⟩ 0 w3 HC3.out (HR.out.fit (by omega)) (by unfold maxLen; decide) pn 0 HPN.out HPE.out
            rw [errV_zero] at CP
            clear hc3 CB
            go_wp2_with fail
            refine CP.mono ?_
            rintro e w4 ⟨rfl, r4, F4, hr4, _, hc4, _, _⟩
            have HR4 : Hid (Run A (i + 1) (min (i + 1) A) (putS s (stk i) r4)) := (HR.out.put hA hi20 hr4).1
            have HC4 : Hid (Lc L w w4 X (putS s (stk i) r4) F4) := hc4
            have C5 := same_any 1 6 w4 (ET.below HE.out hc4.bel)
            clear hc4 CP hr4
            go_wp2_with fail
            refine C5.mono ?_
            rintro e w5 ⟨rfl, hb5⟩
            have HC5 := Hid.mk' (HC4.out.below hb5)
            have C6 := same_any 1 1 w5 (ET.below HE.out HC5.out.bel)
            clear hb5 C5
            go_wp2_with fail
            refine C6.mono ?_
            rintro e w6 ⟨rfl, hb6⟩
            have HC6 := Hid.mk' (HC5.out.below hb6)
            have C7 := same_any 0 6 w6 (ET.below HE.out HC6.out.bel)
            rw [errV_zero] at C7
            clear hb6 C6
            go_wp2_with fail
            refine C7.mono ?_
            rintro e w7 ⟨rfl, hb7⟩
            have HC7 := Hid.mk' (HC6.out.below hb7)
            clear hb7 C7
            go_wp2_with fail
            go_roundw
            case rel => exact ⟨i + 1, _, _, by omega, by go_num, by go_num, HC7, HR4⟩
            case measure => simp [intOf]; omega
        · as_aux_lemma =>
            have f1 : ¬ (A : Int) < i := by omega
            have f2 : (i : Int) ≤ A := by omega
            have f3b : ((i : Int) == (A : Int)) = true := by simp; omega
            have f4 : ¬ (i : Int) < A := by omega
            have HBA : Hid (putN s bad = false ∧ putE s bad = 1) := by obtain ⟨n, hn⟩ : ∃ n, Run A i n s := ⟨_, HR.out⟩; exact ⟨(hn.bad 0).2.1, (hn.bad 0).2.2.1 (by omega)⟩
            have HBS : Hid (∀ r, putS s bad r = s) := fun r => (HR.out.bad r).1
            have HPE : Hid (putE s (stk i) = 6) := (HR.out.put hA hi20 (r := 0) (by omega)).2.2 (by omega)
            obtain ⟨pn, hpn⟩ : ∃ pn, putN s (stk i) = pn := ⟨_, rfl⟩
            have CB := put_bare L w X s F 0 0 0 ⟨#[]⟩ 0 wr HC.out (HR.out.fit (by omega)) (Nat.zero_le _) false 1 HBA.out.1 HBA.out.2
            have HPN := Hid.mk' hpn
            clear hpn ha
            go_wp2_with fail
            refine CB.mono ?_
            rintro e w3 ⟨rfl, r3, F3, _, _, hc3, _, _⟩
            have HC3 : Hid (Lc L w w3 X s F3) := by rw [Hid, ← HBS.out r3]; exact hc3
            have CP := put_bare L w X s F3 1 ((i : Int) + 1) 2 ⟨#[110, 98]⟩ 0 w3 HC3.out (HR.out.fit (by omega)) (by unfold maxLen; decide) pn 6 HPN.out HPE.out
            clear hc3 CB
            go_wp2_with fail
            refine CP.mono ?_
            rintro e w4 ⟨rfl, r4, F4, hr4, _, hc4, _, _⟩
            have HR4 : Hid (Run A (i + 1) (min (i + 1) A) (putS s (stk i) r4)) := (HR.out.put hA hi20 hr4).1
            have HC4 : Hid (Lc L w w4 X (putS s (stk i) r4) F4) := hc4
            have C5 := same_any 1 6 w4 (ET.below HE.out hc4.bel)
            clear hc4 CP hr4
            go_wp2_with fail
            refine C5.mono ?_
            rintro e w5 ⟨rfl, hb5⟩
            have HC5 := Hid.mk' (HC4.out.below hb5)
            have C6 := same_any 1 1 w5 (ET.below HE.out HC5.out.bel)
            clear hb5 C5
            go_wp2_with fail
            refine C6.mono ?_
            rintro e w6 ⟨rfl, hb6⟩
            have HC6 := Hid.mk' (HC5.out.below hb6)
            have C7 := same_any 6 6 w6 (ET.below HE.out HC6.out.bel)
            clear hb6 C6
            go_wp2_with fail
            refine C7.mono ?_
            rintro e w7 ⟨rfl, hb7⟩
            have HC7 := Hid.mk' (HC6.out.below hb7)
            clear hb7 C7
            go_wp2_with fail
            go_roundw
            case rel => exact ⟨i + 1, _, _, by omega, by go_num, by go_num, HC7, HR4⟩
            case measure => simp [intOf]; omega
        · as_aux_lemma =>
            have f1 : (A : Int) < i := by omega
            have f2 : ¬ (i : Int) ≤ A := by omega
            have f3b : ((i : Int) == (A : Int)) = false := by simp; omega
            have f4 : ¬ (i : Int) < A := by omega
            have HBA : Hid (putN s bad = false ∧ putE s bad = 6) := by obtain ⟨n, hn⟩ : ∃ n, Run A i n s := ⟨_, HR.out⟩; exact ⟨(hn.bad 0).2.1, (hn.bad 0).2.2.2 (by omega)⟩
            have HBS : Hid (∀ r, putS s bad r = s) := fun r => (HR.out.bad r).1
            have HPE : Hid (putE s (stk i) = 6) := (HR.out.put hA hi20 (r := 0) (by omega)).2.2 (by omega)
            obtain ⟨pn, hpn⟩ : ∃ pn, putN s (stk i) = pn := ⟨_, rfl⟩
            have CB := put_bare L w X s F 0 0 0 ⟨#[]⟩ 0 wr HC.out (HR.out.fit (by omega)) (Nat.zero_le _) false 6 HBA.out.1 HBA.out.2
            have HPN := Hid.mk' hpn
            clear hpn ha
            go_wp2_with fail
            refine CB.mono ?_
            rintro e w3 ⟨rfl, r3, F3, _, _, hc3, _, _⟩
            have HC3 : Hid (Lc L w w3 X s F3) := by rw [Hid, ← HBS.out r3]; exact hc3
            have CP := put_bare L w X s F3 1 ((i : Int) + 1) 2 ⟨#[110, 98]⟩ 0 w3 HC3.out (HR.out.fit (by omega)) (by unfold maxLen; decide) pn 6 HPN.out HPE.out
            clear hc3 CB
            go_wp2_with fail
            refine CP.mono ?_
            rintro e w4 ⟨rfl, r4, F4, hr4, _, hc4, _, _⟩
            have HR4 : Hid (Run A (i + 1) (min (i + 1) A) (putS s (stk i) r4)) := (HR.out.put hA hi20 hr4).1
            have HC4 : Hid (Lc L w w4 X (putS s (stk i) r4) F4) := hc4
            have C5 := same_any 6 6 w4 (ET.below HE.out hc4.bel)
            clear hc4 CP hr4
            go_wp2_with fail
            refine C5.mono ?_
            rintro e w5 ⟨rfl, hb5⟩
            have HC5 := Hid.mk' (HC4.out.below hb5)
            have C6 := same_any 6 1 w5 (ET.below HE.out HC5.out.bel)
            clear hb5 C5
            go_wp2_with fail
            refine C6.mono ?_
            rintro e w6 ⟨rfl, hb6⟩
            have HC6 := Hid.mk' (HC5.out.below hb6)
            have C7 := same_any 6 6 w6 (ET.below HE.out HC6.out.bel)
            clear hb6 C6
            go_wp2_with fail
            refine C7.mono ?_
            rintro e w7 ⟨rfl, hb7⟩
            have HC7 := Hid.mk' (HC6.out.below hb7)
            clear hb7 C7
            go_wp2_with fail
            go_roundw
            case rel => exact ⟨i + 1, _, _, by omega, by go_num, by go_num, HC7, HR4⟩
            case measure => simp [intOf]; omega
      · obtain rfl : i = M := by omega
        have hltz : ¬ (i : Int) < i := by omega
        have HRN : Hid (∃ n, Run A i n s) := ⟨_, HR.out⟩
        clear HR
        go_wp2_with fail
        go_loopw [8] (fun v8 wx => ∃ (k : Nat) (s : Lg) (F : Nat → Prop), k ≤ 21 ∧ v8 = .int .i64 k ∧ Hid (Lc L w wx X s F) ∧ Hid (∃ n, Run A k n s)) (fun v8 _ => 30 - (intOf v8).toNat)
        case atStart => exact ⟨i, s, F, by omega, rfl, HC, HRN⟩
        case round =>
          clear HC HRN
          obtain ⟨k, s, F, hk, rfl, HC, HRN⟩ := hrel
          rcases Nat.lt_trichotomy k A with ha | ha | ha
          · as_aux_lemma =>
              have hkz : (k : Int) ≤ A := by omega
              have hkb : ((k : Int) == (A : Int)) = false := by simp; omega
              obtain ⟨n, hn⟩ := HRN.out
              have HSE : Hid (syncE s = 0) := hn.sync.2.1 (by omega)
              have HR2 : Hid (∃ n, Run A (k + 1) n (syncS s)) := ⟨n, hn.sync.1⟩
              have C := L.sync X s F wr HC.out.at' (hn.fit (by omega))
              rw [HSE.out, errV_zero] at C
              clear hn HRN ha
              go_wp2_with fail
              refine C.mono ?_
              rintro e w3 ⟨rfl, hl⟩
              obtain ⟨F3, h3c⟩ := HC.out.set hl
              have HC3 := Hid.mk' h3c
              clear hl h3c C
              go_wp2_with fail
              go_roundw
              case rel => exact ⟨k + 1, _, _, by omega, by go_num, HC3, HR2⟩
              case measure => simp [intOf]; omega
          · as_aux_lemma =>
              have hkz : (k : Int) ≤ A := by omega
              have hkb : ((k : Int) == (A : Int)) = true := by simp; omega
              obtain ⟨n, hn⟩ := HRN.out
              have HSE : Hid (syncE s = 6) := hn.sync.2.2 (by omega)
              have HR2 : Hid (∃ n, Run A (k + 1) n (syncS s)) := ⟨n, hn.sync.1⟩
              have C := L.sync X s F wr HC.out.at' (hn.fit (by omega))
              rw [HSE.out, errV_ne (by decide)] at C
              clear hn HRN ha
              go_wp2_with fail
              refine C.mono ?_
              rintro e w3 ⟨rfl, hl⟩
              obtain ⟨F3, h3c⟩ := HC.out.set hl
              have HC3 := Hid.mk' h3c
              clear hl h3c C
              go_wp2_with fail
              go_roundw
              case rel => exact ⟨k + 1, _, _, by omega, by go_num, HC3, HR2⟩
              case measure => simp [intOf]; omega
          · have hkz : ¬ (k : Int) ≤ A := by omega
            obtain ⟨n, hn⟩ := HRN.out
            have HN := Hid.mk' hn
            have hok := L.ok HC.out.at'
            have HAF : Hid (∀ keep, Aft (crashS s keep)) := fun keep => hn.crash hok (by omega) keep
            have HST : Hid (s.stopped = true) := hn.no ha
            have HFT : Hid (Fit s) := hn.fit (by omega)
            have HSY : Hid (syncE s = 6 ∧ syncS s = s ∧ putE s fin = 6 ∧ ∀ r, putS s fin r = s) := by
              rw [Hid]; unfold syncE syncS putE putS; rw [hn.no ha]
              exact ⟨rfl, rfl, rfl, fun r => rfl⟩
            obtain ⟨pn, hpn⟩ : ∃ pn, putN s fin = pn := ⟨_, rfl⟩
            have HPN := Hid.mk' hpn
            clear hn hok HRN hpn ha
            go_wp2_with fail
            generalize hw3 : World.alloc wr _ = w3
            obtain ⟨Bo, hBo⟩ : ∃ Bo, Bo = wr.heap.size := ⟨_, rfl⟩
            rw [← hBo]
            have HBL : Hid (w3.heap[Bo]? = some (.cells #[.int .i64 2, .int .i64 1, .int .i64 1, .string ⟨#[112, 98]⟩, .int .i64 104, .slice none 0 0] 34)) := by rw [Hid, ← hw3, hBo]; exact heap_alloc_new wr _
            have HB3 : Hid (Below wr.heap.size wr w3) := by rw [Hid, ← hw3]; exact (Below.refl _ _).alloc (Nat.le_refl _) _
            have HC3 := Hid.mk' (HC.out.below HB3.out)
            have HBF : Hid (¬ F Bo) := fun e => by have h9 := L.lt HC.out.at' Bo e; omega
            have C3 := L.sync X s F w3 HC3.out.at' HFT.out
            rw [HSY.out.1, HSY.out.2.1, errV_ne (by decide)] at C3
            clear hw3 hBo
            go_wp2_with fail
            refine C3.mono ?_
            rintro e w4 ⟨rfl, hl4⟩
            have HBL4 : Hid (w4.heap[Bo]? = some (.cells #[.int .i64 2, .int .i64 1, .int .i64 1, .string ⟨#[112, 98]⟩, .int .i64 104, .slice none 0 0] 34)) := by
              obtain ⟨_, _, hc, _⟩ := hl4
              exact (hc.block Bo (Array.getElem?_eq_some_iff.1 HBL.out).1 HBF.out).trans HBL.out
            have HBF4 : Hid (∀ F4, Lc L w w4 X s F4 → (∀ g, F4 g → F g ∨ w3.heap.size ≤ g) → ¬ F4 Bo) := fun F4 _ h2 e => by
              rcases h2 Bo e with e | e
              · exact HBF.out e
              · have := (Array.getElem?_eq_some_iff.1 HBL.out).1; omega
            obtain ⟨F4, x1, x2, x3⟩ := hl4
            obtain ⟨F4', h4c⟩ : ∃ F', Lc L w w4 X s F' ∧ ¬ F' Bo := by
              refine ⟨F4, ⟨x1, fun g e => ?_, x2.below HC3.out.low HC3.out.bel HC3.out.bel.size⟩, fun e => ?_⟩
              · rcases x3 g e with e | e
                · exact HC3.out.low g e
                · have := HC3.out.bel.size; omega
              · rcases x3 Bo e with e | e
                · exact HBF.out e
                · have := (Array.getElem?_eq_some_iff.1 HBL.out).1; omega
            have HC4 := Hid.mk' h4c.1
            have HBO4 := Hid.mk' h4c.2
            have CP := put_bare L w X s F4' 2 1 1 ⟨#[112, 98]⟩ 104 w4 HC4.out HFT.out (by unfold maxLen; decide) pn 6 HPN.out HSY.out.2.2.1
            have o0 := blk_cell HBL4.out (i := 0) (u := .int .i64 2) rfl
            have o1 := blk_cell HBL4.out (i := 1) (u := .int .i64 1) rfl
            have o2 := blk_cell HBL4.out (i := 2) (u := .int .i64 1) rfl
            have o3 := blk_cell HBL4.out (i := 3) (u := .string ⟨#[112, 98]⟩) rfl
            have o4 := blk_cell HBL4.out (i := 4) (u := .int .i64 104) rfl
            have o5 := blk_cell HBL4.out (i := 5) (u := .slice none 0 0) rfl
            rw [errV_ne (by decide)] at CP
            clear x1 x2 x3 h4c C3 HBF4 HBL HBF HB3 HC3
            go_wp2_with fail
            refine CP.mono ?_
            rintro e w5 ⟨rfl, r5, F5, _, _, hc5, hg5, hs5⟩
            have HBOX : Hid (¬ F5 Bo) := fun e => by
              rcases hs5 Bo e with e | e
              · exact HBO4.out e
              · have := (Array.getElem?_eq_some_iff.1 HBL4.out).1; omega
            clear hs5
            have HC5 : Hid (Lc L w w5 X s F5) := by rw [Hid, ← HSY.out.2.2.2 r5]; exact hc5
            have HBL5 : Hid (w5.heap[Bo]? = some (.cells #[.int .i64 2, .int .i64 1, .int .i64 1, .string ⟨#[112, 98]⟩, .int .i64 104, .slice none 0 0] 34)) := (hg5.block Bo (Array.getElem?_eq_some_iff.1 HBL4.out).1 HBO4.out).trans HBL4.out
            have C6 := same_err 6 6 w5 (ET.below HE.out HC5.out.bel)
            clear hc5 hg5 CP o0 o1 o2 o3 o4 o5
            go_wp2_with fail
            refine C6.mono ?_
            rintro e w6 ⟨rfl, hb6⟩
            have HC6 := Hid.mk' (HC5.out.below hb6)
            have C7 := same_err 6 6 w6 (ET.below HE.out HC6.out.bel)
            have HBL6 : Hid (w6.heap[Bo]? = some (.cells #[.int .i64 2, .int .i64 1, .int .i64 1, .string ⟨#[112, 98]⟩, .int .i64 104, .slice none 0 0] 34)) := (hb6.block Bo (Array.getElem?_eq_some_iff.1 HBL5.out).1).trans HBL5.out
            clear hb6 C6
            go_wp2_with fail
            refine C7.mono ?_
            rintro e w7 ⟨rfl, hb7⟩
            have HC7 := Hid.mk' (HC6.out.below hb7)
            have HBL7 : Hid (w7.heap[Bo]? = some (.cells #[.int .i64 2, .int .i64 1, .int .i64 1, .string ⟨#[112, 98]⟩, .int .i64 104, .slice none 0 0] 34)) := (hb7.block Bo (Array.getElem?_eq_some_iff.1 HBL6.out).1).trans HBL6.out
            have CC := L.crash X s F5 ke w7 HC7.out.at' HFT.out
            have HBO5 : Hid (¬ F5 Bo) := HBOX.out
            clear hb7 C7
            go_wp2_with fail
            refine CC.mono ?_
            rintro e w8 ⟨rfl, hl8⟩
            have HBL8 : Hid (w8.heap[Bo]? = some (.cells #[.int .i64 2, .int .i64 1, .int .i64 1, .string ⟨#[112, 98]⟩, .int .i64 104, .slice none 0 0] 34)) := by
              obtain ⟨_, _, hc, _⟩ := hl8
              exact (hc.block Bo (Array.getElem?_eq_some_iff.1 HBL7.out).1 HBO5.out).trans HBL7.out
            obtain ⟨F8, h8c⟩ := HC7.out.set hl8
            have HC8 := Hid.mk' h8c
            have HA8 := Hid.mk' (HAF.out ke)
            have CF := put_bare L w X (crashS s ke) F8 2 1 1 ⟨#[112, 98]⟩ 104 w8 h8c HA8.out.fit (by unfold maxLen; decide) true 0 (HA8.out.put (r := 0) (by omega)).1 (HA8.out.put (r := 0) (by omega)).2.1
            have o0 := blk_cell HBL8.out (i := 0) (u := .int .i64 2) rfl
            have o1 := blk_cell HBL8.out (i := 1) (u := .int .i64 1) rfl
            have o2 := blk_cell HBL8.out (i := 2) (u := .int .i64 1) rfl
            have o3 := blk_cell HBL8.out (i := 3) (u := .string ⟨#[112, 98]⟩) rfl
            have o4 := blk_cell HBL8.out (i := 4) (u := .int .i64 104) rfl
            have o5 := blk_cell HBL8.out (i := 5) (u := .slice none 0 0) rfl
            rw [errV_zero] at CF
            clear hl8 h8c CC
            go_wp2_with fail
            refine CF.mono ?_
            rintro e w9 ⟨rfl, r9, F9, hr9, _, hc9, _, _⟩
            obtain ⟨_, _, p3, p4, p5⟩ := HA8.out.put hr9
            have HC9 : Hid (Lc L w w9 X (putS (crashS s ke) fin r9) F9) := hc9
            have HTX := Hid.mk' p5
            have CS := L.sync X (putS (crashS s ke) fin r9) F9 w9 hc9.at' p4
            rw [p3, errV_zero] at CS
            clear hc9 CF p3 p4 p5 hr9 o0 o1 o2 o3 o4 o5
            go_wp2_with fail
            refine CS.mono ?_
            rintro e w10 ⟨rfl, hl10⟩
            obtain ⟨F10, h10c⟩ := HC9.out.set hl10
            have HC10 := Hid.mk' h10c
            have CD := L.doc X _ F10 w10 h10c.at'
            clear hl10 h10c CS
            go_wp2_with fail
            refine CD.mono ?_
            rintro e w11 ⟨D, Fd, rfl, hd11, _, hb11⟩
            have HC11 := Hid.mk' (HC10.out.below hb11)
            have CT := text_get D _ Fd w11 hd11
            rw [HTX.out] at CT
            clear hd11 hb11 CD
            go_wp2_with fail
            refine CT.mono ?_
            rintro e w12 ⟨rfl, hb12⟩
            have HC12 := Hid.mk' (HC11.out.below hb12)
            clear hb12 CT
            go_wp2_with fail
            go_ret
            exact ⟨rfl, HC12.out.bel⟩

end Ti
end Go.Proofs.YtgefpcchcegcpaaGreatDoor
